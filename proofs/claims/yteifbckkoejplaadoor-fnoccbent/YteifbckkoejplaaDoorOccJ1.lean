/- Numbers as bits, and bits as numbers: the library's two functions on words, and the program's list of the bits. -/
import Derived.Test.YteifbckkoejplaaDoorOccBox
import Derived.Test.YteifbckkoejplaaDoorOcc2
import Derived.Lib.TrailingZeros
import Derived.Lib.LaidTab
import Derived.OwnWalk
import Derived.WalkSmall
import Derived.Deep.QuietTactic
namespace Go.Proofs.YteifbckkoejplaaDoor
open Go.ChangeShapes Go.WideShapes Go.ChangeAt Go.RowKit
set_option linter.unusedVariables false
set_option maxRecDepth 4000

def tzTab : List Int := Lib.deBruijn32tab.map Int.ofNat
theorem bGlob : Tryd.prog.globalNamed "math/bits.deBruijn32tab" = some 0 := by kernel_rfl
/-- The library's table lies as its text lays it. -/
def BTab (w : World) : Prop := Lib.TabIs Tryd.prog w "math/bits.deBruijn32tab" .u8 tzTab
theorem BTab.lt {w : World} (h : BTab w) : 0 < w.heap.size := by
  unfold BTab Lib.TabIs World.var? at h
  rw [bGlob] at h
  simp only [Option.bind_some] at h
  cases hh : w.heap[0]? with
  | none => rw [hh] at h; simp at h
  | some o => exact (Array.getElem?_eq_some_iff.1 hh).1
theorem BTab.below {w w' : World} {B : Nat} (h : BTab w) (hb : Below B w w') (hB : 0 < B) : BTab w' := var?_below hb bGlob hB h

theorem retI' {a b : Int} (h : a = b) : Ending.returned (.int .i64 a) = .returned (.int .i64 b) := by rw [h]
theorem jKey (x a : Nat) (hx : x < 4294967296) (hx0 : x ≠ 0) (hlow : x &&& (4294967296 - x) = a) :
    bits BinOp.and IntKind.u32 (x : Int) (-(x : Int) % 4294967296) * 125613361 % 4294967296 / 134217728 = ((a * 125613361 % 4294967296 / 134217728 : Nat) : Int) := by
  have e1 : -(x : Int) % 4294967296 = ((4294967296 - x : Nat) : Int) := by omega
  rw [e1, u32_and_nat x _ hx (by omega), hlow]
  omega

set_option maxHeartbeats 1000000 in
theorem trailing_core (x k idx : Nat) (w : World) (hx0 : ((x : Int) == 0) = false)
    (key : bits BinOp.and IntKind.u32 (x : Int) (-(x : Int) % 4294967296) * 125613361 % 4294967296 / 134217728 = (idx : Int))
    (hi : idx < 32) (hk : k < 32) (hcell : w.cell? ⟨0, idx, none⟩ = some (.int .u8 k)) :
    Calls Tryd.prog 31 #[.int .u32 x] w fun e w' => e = .returned (.int .i64 k) ∧ w' = w := by
  go_enter Tryd.func31, Tryd.ntmps31
  go_wp2_with (simp only [key])
  go_ret
  exact ⟨rfl, rfl⟩

theorem tzTab_get (i : Nat) : tzTab.getD i 0 = ((Lib.deBruijn32tab.getD i 0 : Nat) : Int) := by
  unfold tzTab
  simp only [List.getD, List.getElem?_map]
  cases Lib.deBruijn32tab[i]? <;> simp
theorem tzTab_len : tzTab.length = 32 := by simp [tzTab, Lib.deBruijn32tab]

theorem trailing_any (x : Nat) (w : World) (h0 : 0 < x) (hx : x < 4294967296) (hT : BTab w) :
    Calls Tryd.prog 31 #[.int .u32 x] w fun e w' => e = .returned (.int .i64 (Lib.ctz 32 x : Nat)) ∧ w' = w := by
  obtain ⟨hlow, hk⟩ := Lib.lowest_bit 32 x (by omega) hx
  obtain ⟨hi, htab⟩ := Lib.deBruijn32_at _ hk
  have hcell := Lib.TabIs.cell hT bGlob _ (by rw [tzTab_len]; exact hi)
  rw [tzTab_get, htab] at hcell
  exact trailing_core x _ _ w (by simp; omega) (jKey x _ hx (by omega) hlow) hi hk hcell

theorem and255 (a : Nat) (ha : a < 4294967296) : ∃ j : Nat, j < 256 ∧ bits .and .u32 (a : Int) 255 = (j : Int) := by
  refine ⟨a &&& 255, ?_, u32_and_nat a 255 ha (by omega)⟩
  exact Nat.and_lt_two_pow (n := 8) a (by omega)

set_option maxHeartbeats 1000000 in
theorem ones_core (x j3 j2 j1 j0 : Nat) (w : World) (h3 : j3 < 256) (h2 : j2 < 256) (h1 : j1 < 256) (h0 : j0 < 256) (k3 : (x : Int) / 16777216 = (j3 : Int))
    (k2 : bits .and .u32 ((x : Int) / 65536) 255 = (j2 : Int)) (k1 : bits .and .u32 ((x : Int) / 256) 255 = (j1 : Int)) (k0 : bits .and .u32 (x : Int) 255 = (j0 : Int)) :
    Calls Tryd.prog 30 #[.int .u32 x] w fun e w' => ∃ n : Nat, e = .returned (.int .i64 n) ∧ n < 256 ∧ Below w.heap.size w w' := by
  go_enter Tryd.func30, Tryd.ntmps30
  go_wp2
  generalize hS : ByteArray.mk _ = S
  have hsz : S.size = 256 := by rw [← hS]; rfl
  clear hS
  have e3 : j3 < S.size := by omega
  have e2 : j2 < S.size := by omega
  have e1 : j1 < S.size := by omega
  have e0 : j0 < S.size := by omega
  clear hsz
  go_quiet (fail)
  go_wp2
  go_ret
  refine ⟨(S[j3].toNat + S[j2].toNat + S[j1].toNat + S[j0].toNat) % 256, retI' (by push_cast; rfl), by omega, ⟨rfl, rfl, rfl, Nat.le_refl _, fun _ _ => rfl⟩⟩

theorem ones_any (x : Nat) (w : World) (hx : x < 4294967296) :
    Calls Tryd.prog 30 #[.int .u32 x] w fun e w' => ∃ n : Nat, e = .returned (.int .i64 n) ∧ n < 256 ∧ Below w.heap.size w w' := by
  obtain ⟨j2, h2, k2⟩ := and255 (x / 65536) (by omega)
  obtain ⟨j1, h1, k1⟩ := and255 (x / 256) (by omega)
  obtain ⟨j0, h0, k0⟩ := and255 x hx
  exact ones_core x (x / 16777216) j2 j1 j0 w (by omega) h2 h1 h0 (by omega) (by simpa using k2) (by simpa using k1) k0

/-- Ascending. -/
def Asc (l : List Int) : Prop := l.Pairwise (· < ·)
theorem asc_ext : ∀ (l l' : List Int), Asc l → Asc l' → (∀ x, x ∈ l ↔ x ∈ l') → l = l'
  | [], [], _, _, _ => rfl
  | [], y :: s, _, _, h => by have := (h y).2 (by simp); cases this
  | x :: r, [], _, _, h => by have := (h x).1 (by simp); cases this
  | x :: r, y :: s, ha, hb, h => by
    obtain ⟨a1, a2⟩ := List.pairwise_cons.1 ha
    obtain ⟨b1, b2⟩ := List.pairwise_cons.1 hb
    have e : x = y := by
      rcases List.mem_cons.1 ((h x).1 (by simp)) with e | hx
      · exact e
      · rcases List.mem_cons.1 ((h y).2 (by simp)) with e | hy
        · exact e.symm
        · have := b1 x hx; have := a1 y hy; omega
    subst e
    have ih := asc_ext r s a2 b2 (fun z => by
      constructor
      · intro hz
        rcases List.mem_cons.1 ((h z).1 (by simp [hz])) with e | hz'
        · have := a1 z hz; omega
        · exact hz'
      · intro hz
        rcases List.mem_cons.1 ((h z).2 (by simp [hz])) with e | hz'
        · have := b1 z hz; omega
        · exact hz')
    rw [ih]

/-- r is just the places of the bits of s, ascending. -/
structure IsBits (s : Nat) (r : List Int) : Prop where
  asc : Asc r
  mem : ∀ i, i ∈ r ↔ 0 ≤ i ∧ s.testBit i.toNat = true

/-- out are places of bits of s, all below those that are left. -/
structure BitsTo (s left : Nat) (out : List Int) : Prop where
  asc : Asc out
  low : ∀ i ∈ out, ∀ j, left.testBit j = true → i < j
  mem : ∀ i, (0 ≤ i ∧ s.testBit i.toNat = true) ↔ (i ∈ out ∨ (0 ≤ i ∧ left.testBit i.toNat = true))
theorem BitsTo.start (s : Nat) : BitsTo s s [] := ⟨List.Pairwise.nil, by simp, by simp⟩
theorem BitsTo.done {s : Nat} {out : List Int} (h : BitsTo s 0 out) : IsBits s out := ⟨h.asc, fun i => by have := h.mem i; simp at this; exact this.symm⟩
theorem low_bits {x k m : Nat} (h : x = 2 ^ k * (2 * m + 1)) (i : Nat) : x.testBit i = (if i < k then false else (2 * m + 1).testBit (i - k)) := by
  have := Nat.testBit_two_pow_mul_add (2 * m + 1) (b := 0) (i := k) (Nat.two_pow_pos k) i
  simp only [Nat.add_zero, Nat.zero_testBit] at this
  rw [h, this]
theorem low_bits' {x k m : Nat} (h : x = 2 ^ k * (2 * m + 1)) (i : Nat) : (x - 1).testBit i = (if i < k then true else (2 * m).testBit (i - k)) := by
  have hp := Nat.two_pow_pos k
  have e : x - 1 = 2 ^ k * (2 * m) + (2 ^ k - 1) := by rw [h, Nat.mul_add, Nat.mul_one]; omega
  have := Nat.testBit_two_pow_mul_add (2 * m) (b := 2 ^ k - 1) (i := k) (by omega) i
  rw [e, this]
  split
  · rename_i hi; rw [Nat.testBit_two_pow_sub_one]; simpa using hi
  · rfl
theorem clear_low {x k m : Nat} (h : x = 2 ^ k * (2 * m + 1)) (i : Nat) : (x &&& (x - 1)).testBit i = (x.testBit i && decide (i ≠ k)) := by
  rw [Nat.testBit_and, low_bits h, low_bits' h]
  by_cases hi : i < k
  · simp [hi]
  · rw [if_neg hi, if_neg hi]
    by_cases e : i = k
    · subst e; simp
    · obtain ⟨n, hn⟩ : ∃ n, i - k = n + 1 := ⟨i - k - 1, by omega⟩
      rw [hn, Nat.testBit_succ, Nat.testBit_succ, show (2 * m + 1) / 2 = m by omega, show 2 * m / 2 = m by omega]
      simp [e]
theorem BitsTo.next {s x k m : Nat} {out : List Int} (h : BitsTo s x out) (hx : x = 2 ^ k * (2 * m + 1)) : BitsTo s (x &&& (x - 1)) (out ++ [(k : Int)]) := by
  have hk : x.testBit k = true := by rw [low_bits hx, if_neg (by omega), Nat.sub_self]; simp
  refine ⟨List.pairwise_append.2 ⟨h.asc, List.pairwise_singleton _ _, fun i hi j hj => ?_⟩, fun i hi j hj => ?_, fun i => ?_⟩
  · simp at hj; subst hj; exact h.low i hi k hk
  · rw [clear_low hx] at hj
    simp at hj
    rcases List.mem_append.1 hi with hi | hi
    · exact h.low i hi j hj.1
    · simp at hi
      subst hi
      have := hj.1
      rw [low_bits hx] at this
      by_cases hjk : j < k
      · simp [hjk] at this
      · omega
  · rw [h.mem i, clear_low hx]
    simp only [List.mem_append, List.mem_singleton, Bool.and_eq_true, decide_eq_true_eq]
    constructor
    · rintro (h1 | ⟨h1, h2⟩)
      · exact .inl (.inl h1)
      · by_cases e : i.toNat = k
        · exact .inl (.inr (by omega))
        · exact .inr ⟨h1, h2, e⟩
    · rintro ((h1 | h1) | ⟨h1, h2, _⟩)
      · exact .inl h1
      · subst h1; exact .inr ⟨by omega, by simpa using hk⟩
      · exact .inr ⟨h1, h2⟩

theorem owns_below' {w w' : World} {B : Nat} {e : TypeId} {z : Nat} {v : Value} {n : Nat} {xs : List Value} (h : w.ownsRow B e z v n xs) (hb : Below w.heap.size w w') : w'.ownsRow B e z v n xs :=
  h.kept (row := none) ⟨hb.os, hb.tape, hb.output, hb.size, fun i hi _ => hb.block i hi⟩ (by cases v.ownBlock <;> simp)

set_option maxHeartbeats 1000000 in
theorem idList_any (s : Nat) (w : World) (hs : s < 4294967296) (hT : BTab w) :
    Calls Tryd.prog 19 #[.int .u32 s] w fun e w' => ∃ v r, e = .returned v ∧ IsBits s r ∧ w'.ownsRow w.heap.size 3 1 v r.length (intCells r) ∧ Below w.heap.size w w' := by
  obtain ⟨i0, hi, hz0, hz1, hz2⟩ := info_int_parts
  go_enter Tryd.func19, Tryd.ntmps19
  go_wp2_with fail
  refine (ones_any s w hs).mono ?_
  rintro e w1 ⟨n, rfl, hn, hb1⟩
  obtain ⟨w2, hmk, hown0, hgr0⟩ := run_make_own (P := Tryd.prog) w1 w.heap.size 23 3 i0 (.int .i64 0) 1 Tryd.underlying23 hi hz0 hz1 .i64 .i64 n (by rw [hz2]; omega) (by unfold maxLen; omega) hb1.size
  have hb2 : Below w.heap.size w w2 := hb1.grown hgr0 hb1.size (by simp)
  have hws : IntKind.u32.wrap (s : Int) = (s : Int) := by rw [IntKind.wrap_u32]; omega
  have HT : Hid (BTab w) := hT
  clear hT
  go_wp2
  go_loopw [3, 4] (fun v lf wr => ∃ left : Nat, ∃ out : List Int, lf = .int .u32 left ∧ Hid (BitsTo s left out) ∧ left < 4294967296 ∧ Hid (out.length + left ≤ s) ∧ wr.ownsRow w.heap.size 3 1 v out.length (intCells out) ∧ Below w.heap.size w wr) (fun _ lf _ => (intOf lf).toNat)
  case atStart => exact ⟨s, [], by go_num, BitsTo.start s, hs, by show _ ≤ _; simp, hown0, hb2⟩
  case round =>
    obtain ⟨left, out, rfl, hbt, hlf, hle, hown, hb⟩ := hrel
    by_cases hl0 : left = 0
    · subst hl0
      go_wp2
      go_ret
      exact ⟨_, out, rfl, hbt.out.done, hown, hb⟩
    · have hne : ((left : Int) != 0) = true := by simpa using hl0
      obtain ⟨m, hm, hk⟩ := Lib.ctzFrom_spec 32 left (by omega) hlf
      have hc : Lib.ctz 32 left = Lib.ctzFrom 32 left := if_neg hl0
      have hnx := hbt.out.next hm
      have hlt : left &&& (left - 1) < left := Nat.lt_of_le_of_lt Nat.and_le_right (by omega)
      have hand : bits .and .u32 (left : Int) ((left : Int) - 1) = ((left &&& (left - 1) : Nat) : Int) := by
        rw [show (left : Int) - 1 = ((left - 1 : Nat) : Int) by omega]
        exact u32_and_nat left (left - 1) hlf (by omega)
      generalize left &&& (left - 1) = nl at hlt hand hnx
      have hTr : BTab wr := HT.out.below hb HT.out.lt
      have hlen : out.length < 4294967296 := by have := hle.out; omega
      have Hlt : Hid (nl < left) := hlt
      have Hnx : Hid (BitsTo s nl (out ++ [((Lib.ctzFrom 32 left : Nat) : Int)])) := hnx
      rw [← hc] at Hnx
      clear hm hnx hl0 hc hk
      go_wp2_with fail
      refine (trailing_any left _ (by have := Hlt.out; omega) hlf hTr).mono ?_
      rintro e w3 ⟨rfl, rfl⟩
      generalize Lib.ctz 32 left = k at Hnx
      go_wp2_with (at_builtin; refine wpList_append_own _ rfl _ _ 23 rfl w.heap.size 3 i0 (.int .i64 0) 1 8 Tryd.underlying23 hi hz0 hz1 hz2 rfl (by decide) _ _ _ rfl (hown.alloc _) ⟨w3.heap.size, 0, none⟩ 1 1 [.int .i64 k] rfl rfl ?c1 ?c2 ?c3 ?c4 ?c5 ?_)
      case c1 => exact new_int w3 k 3
      case c2 => intro u hu; simp at hu; subst hu; rfl
      case c3 => unfold maxLen; omega
      case c4 => omega
      case c5 => have := hb.size; simp; omega
      intro v' w4 hown' hgr _
      have hbe : Below w.heap.size w w4 := (hb.alloc hb.size _).grown hgr (by have := hb.size; simp; omega) (fun x hx => (hown.lt x hx).1)
      go_wp2
      have h1 := Hlt.out
      have h2 := hle.out
      refine ⟨⟨nl, out ++ [(k : Int)], rfl, Hnx, by omega, by show _ ≤ _; simp; omega, ?_, hbe⟩, by simp [intOf]; omega⟩
      rw [intCells_snoc, List.length_append]
      exact hown'
end Go.Proofs.YteifbckkoejplaaDoor
