/- The laws' draws: bytes that came in; a number drawn. -/
import Derived.Test.YtpokhhplgljmiaaDoorEvsOwn
import Derived.Test.YtpokhhplgljmiaaDoorEvsOpen
import Derived.Test.YtpokhhplgljmiaaDoorInts
import Derived.Test.YtpokhhplgljmiaaDoorAfter
namespace Go.Proofs.YtpokhhplgljmiaaDoor
open Go.ChangeShapes Go.WideShapes Go.ChangeAt Go.RowKit Go.Deep
set_option linter.unusedVariables false
set_option maxRecDepth 4000

/-- The slice whose address is a holds the bytes l. -/
structure Bytes (w : World) (a : Option Addr) (l : List Int) : Prop where
  len : l.length ≤ maxLen
  cells : 0 < l.length → ∃ b off, a = some ⟨b, off, none⟩ ∧ b < w.heap.size ∧ ∀ i (h : i < l.length), w.cell? ⟨b, off + i, none⟩ = some (.int .u8 l[i]) ∧ 0 ≤ l[i] ∧ l[i] < 256
theorem Bytes.below {w w' : World} {a : Option Addr} {l : List Int} (h : Bytes w a l) (hb : Below w.heap.size w w') : Bytes w' a l := by
  refine ⟨h.len, fun hl => ?_⟩
  obtain ⟨b, off, rfl, hlt, hc⟩ := h.cells hl
  exact ⟨b, off, rfl, Nat.lt_of_lt_of_le hlt hb.size, fun i hi => ⟨by rw [hb.cell hlt]; exact (hc i hi).1, (hc i hi).2⟩⟩
theorem Bytes.only {w w' : World} {a : Option Addr} {l : List Int} {row : Option Nat} (h : Bytes w a l) (hg : w.grownBy w' row) (hne : ∀ x, a = some x → 0 < l.length → row ≠ some x.block) : Bytes w' a l := by
  refine ⟨h.len, fun hl => ?_⟩
  obtain ⟨b, off, rfl, hlt, hc⟩ := h.cells hl
  have hk := hg.block b hlt (fun e => hne _ rfl hl e.symm)
  exact ⟨b, off, rfl, Nat.lt_of_lt_of_le hlt hg.size, fun i hi => ⟨(World.cell?_of_block (w := w) hk).trans (hc i hi).1, (hc i hi).2⟩⟩
theorem u8_of {n : Int} (h : (Lit.int .u8 n).wf = true) : 0 ≤ n ∧ n < 256 := by
  have : 0 ≤ n ∧ n ≤ 255 := by simpa [Lit.wf, IntKind.min, IntKind.max, IntKind.signed, IntKind.bits] using h
  omega

section
variable {H : Type} {enc : TypeId × Value → H} {W : World}
theorem open_bytes_trod {fuel : Nat} {cs : List Value} {x : DataW H × List MemPlace} (h : DataW.trod enc Tryd.prog W 0 (fun _ => true) true fuel 22 cs = some x) :
    ∃ a cap, ∃ l : List Int, cs = [.slice a l.length cap] ∧ Bytes W a l ∧ l.length ≤ cap := by
  rcases DataW.trod_slice Tryd.underlying22 h with ⟨rfl, _⟩ | ⟨a, len, cap, elems, rest, n, rfl, rfl, _, hb, hl, hm, hlen, hel, _, _⟩
  · exact ⟨none, 0, [], rfl, ⟨by simp, by simp⟩, by simp⟩
  · have k1 : Tryd.prog.cellsOf 5 = 1 := by kernel_rfl
    rw [k1] at hel
    by_cases h00 : len = 0
    · subst h00
      exact ⟨_, cap, [], rfl, ⟨by simp, by simp⟩, by simp⟩
    obtain ⟨b, off, spot⟩ := a
    have one : ∀ i, i < len → ∃ cs' y, W.cells? 0 (Addr.add ⟨b, off, spot⟩ (i * 1)) 1 = some cs' ∧ DataW.trod enc Tryd.prog W 0 (fun _ => true) true n 5 cs' = some y := by
      intro i hi
      have := hel i hi
      rw [List.getElem?_eq_getElem (by omega)] at this
      exact Option.bind_eq_some_iff.1 this |>.elim fun cs' hc => ⟨cs', _, hc.1, hc.2⟩
    have hspot : spot = none := by
      obtain ⟨cs', y, h1, h2⟩ := one 0 (by omega)
      obtain ⟨_, hlen, hcell⟩ := World.cells?_some h1
      have := hcell 0 (by omega)
      rw [List.getElem?_eq_getElem (by omega)] at this
      simpa [Addr.add] using World.cell?_spot this
    subst hspot
    obtain ⟨F, hF⟩ := choose_lt (α := Int) (n := len) (p := fun i e => W.cell? ⟨b, off + i, none⟩ = some (.int .u8 e) ∧ 0 ≤ e ∧ e < 256) (fun i hi => by
      obtain ⟨cs', y, h1, h2⟩ := one i hi
      rw [add_plain] at h1
      obtain ⟨_, hlen, hcell⟩ := World.cells?_some h1
      match cs', hlen with
      | [c0], _ =>
        obtain ⟨s, e0, _, ws⟩ := DataW.trod_int Tryd.underlying5 h2
        have g0 := hcell 0 (by omega)
        rw [add_plain] at g0
        simp at e0
        exact ⟨s, by simpa [e0] using g0, u8_of ws⟩)
    refine ⟨_, cap, (List.range len).map F, by simp, ⟨by simp; omega, fun _ => ⟨b, off, rfl, block_lt (hF 0 (by omega)).1, fun i hi => ?_⟩⟩, by simp; omega⟩
    simp only [List.length_map, List.length_range] at hi
    simpa using hF i hi
theorem open_bytes {base : Nat} {v0 : Value} {d0 : DataW H} {p0 : List MemPlace} (hv : Value.okWide Tryd.prog W .any base 22 v0) (h0 : DataW.Trod enc Tryd.prog W 0 (fun _ => true) true 22 v0 d0 p0) :
    ∃ a cap, ∃ l : List Int, v0 = .slice a l.length cap ∧ (Bytes W a l ∧ l.length ≤ cap) := by
  obtain ⟨a, len, cap, rfl⟩ := okWide_slice Tryd.underlying22 hv
  obtain ⟨fuel, hf⟩ := h0
  obtain ⟨a', cap', l, e, hl, hw⟩ := open_bytes_trod hf
  simp [Value.cells] at e
  obtain ⟨rfl, rfl, rfl⟩ := e
  exact ⟨_, _, l, rfl, hl, hw⟩
end

theorem oCellD {w : World} {b : Nat} {c : Array Value} {t : TypeId} {f : Nat × Nat} (h : w.heap[b]? = some (.cells c t f)) (o : Nat) : w.cell? ⟨b, o, none⟩ = c[o]? := by simp [World.cell?, h]
/-- Block R is a reader of the bytes l, at the place p. -/
structure Rd (w : World) (R : Nat) (p : Nat) : Prop where
  ex : ∃ ab cb l t, w.heap[R]? = some (.cells #[.slice ab (List.length l) cb, .int .i64 (p : Nat)] t (0, 0)) ∧ Bytes w ab l ∧ l.length ≤ 2000 ∧ (∀ x, ab = some x → 0 < l.length → x.block < R)
  le : p ≤ 100000
theorem Rd.lt {w : World} {R p : Nat} (h : Rd w R p) : R < w.heap.size := by
  obtain ⟨ab, cb, l, t, hh, _⟩ := h.ex
  exact (Array.getElem?_eq_some_iff.1 hh).1
theorem Rd.below {w w' : World} {R p : Nat} (h : Rd w R p) (hb : Below w.heap.size w w') : Rd w' R p := by
  have hl := h.lt
  obtain ⟨ab, cb, l, t, hh, h1, h2, h3⟩ := h.ex
  exact ⟨⟨ab, cb, l, t, (hb.block R hl).trans hh, h1.below hb, h2, h3⟩, h.le⟩

theorem Rd.next {w : World} {R p cb : Nat} {ab : Option Addr} {l : List Int} {t : TypeId} (hh : w.heap[R]? = some (.cells #[.slice ab l.length cb, .int .i64 (p : Nat)] t (0, 0))) (hB : Bytes w ab l) (hl2 : l.length ≤ 2000)
    (hne : ∀ x, ab = some x → 0 < l.length → x.block < R) (hp : p < 100000) (v : Int) (hv : v = (p : Int) + 1) :
    Rd (w.setCell ⟨R, 1, none⟩ (.int .i64 v)) R (p + 1) ∧ w.grownBy (w.setCell ⟨R, 1, none⟩ (.int .i64 v)) (some R) := by
  have hg : w.grownBy (w.setCell ⟨R, 1, none⟩ (.int .i64 v)) (some R) := grownBy_setCell (grownBy_refl _ _) _
  refine ⟨⟨⟨ab, cb, l, t, ?_, hB.only hg (fun x hx hl e => Nat.lt_irrefl R (by have h1 := hne x hx hl; rw [← (show R = x.block by simpa using e)] at h1; exact h1)), hl2, hne⟩, by omega⟩, hg⟩
  have := heap_setCell_same _ _ 1 _ _ (.int .i64 v) hh
  rw [this, hv]
  simp
/-- What a draw hands back: a number below n, the reader one further. -/
def PickPost (w : World) (R : Nat) (n : Int) (p : Nat) (e : Ending) (w' : World) : Prop :=
  ∃ v : Nat, e = .returned (.int .i64 v) ∧ (n < 1 → v = 0) ∧ (1 ≤ n → (v : Int) < n) ∧ Rd w' R (p + 1) ∧ w.grownBy w' (some R)
theorem tmod_nat {a n : Int} (h0 : 0 ≤ a) (hn : 1 ≤ n) : ∃ v : Nat, a.tmod n = v ∧ (v : Int) < n := by
  refine ⟨(a.tmod n).toNat, ?_, ?_⟩
  · have := Int.tmod_nonneg n h0; omega
  · have h1 := Int.tmod_nonneg n h0
    have h2 := Int.tmod_lt_of_pos a (show 0 < n by omega)
    omega

theorem xor_nat (a b : Nat) (ha : a < 4611686018427387904) (hb : b < 4611686018427387904) : bits .xor .i64 (a : Int) (b : Int) = ((a ^^^ b : Nat) : Int) := by
  have hx : a ^^^ b < 2 ^ 62 := Nat.xor_lt_two_pow (by omega) (by omega)
  have h1 : (BitVec.ofInt 64 (a : Int)).toNat = a := by
    rw [BitVec.ofInt_natCast, BitVec.toNat_ofNat]; exact Nat.mod_eq_of_lt (by omega)
  have h2 : (BitVec.ofInt 64 (b : Int)).toNat = b := by
    rw [BitVec.ofInt_natCast, BitVec.toNat_ofNat]; exact Nat.mod_eq_of_lt (by omega)
  show IntKind.i64.wrap ((BitVec.ofInt 64 (a : Int) ^^^ BitVec.ofInt 64 (b : Int)).toNat : Int) = _
  rw [BitVec.toNat_xor, h1, h2, IntKind.wrap_i64]
  omega
theorem xor_pos {x : Int} (h0 : 0 ≤ x) (h1 : x < 4611686018427387904) : 0 ≤ bits .xor .i64 x (x / 64) := by
  obtain ⟨a, rfl⟩ := Int.eq_ofNat_of_zero_le h0
  have e : (a : Int) / 64 = ((a / 64 : Nat) : Int) := by omega
  rw [e, xor_nat _ _ (by omega) (by omega)]
  omega

theorem Rd.lower {w w' : World} {R p B : Nat} (h : Rd w R p) (hR : R < B) (hb : Below B w w') : Rd w' R p := by
  obtain ⟨ab, cb, l, t, hh, h1, h2, h3⟩ := h.ex
  refine ⟨⟨ab, cb, l, t, (hb.block R hR).trans hh, ⟨h1.len, fun hl => ?_⟩, h2, h3⟩, h.le⟩
  obtain ⟨b, off, rfl, hlt, hc⟩ := h1.cells hl
  have hbR : b < R := h3 _ rfl hl
  exact ⟨b, off, rfl, Nat.lt_of_lt_of_le hlt hb.size, fun i hi => ⟨by rw [hb.cell (show b < B by omega)]; exact (hc i hi).1, (hc i hi).2⟩⟩
theorem Rd.new {w : World} {a : Option Addr} {cap : Nat} {l : List Int} (T : TypeId) (h : Bytes w a l) (hl : l.length ≤ 2000) : Rd (w.alloc (.cells #[.slice a l.length cap, .int .i64 0] T)) w.heap.size 0 := by
  refine ⟨⟨a, cap, l, T, heap_alloc_new w _, h.below ((Below.refl _ _).alloc (Nat.le_refl _) _), hl, fun x hx hp => ?_⟩, by omega⟩
  obtain ⟨b, off, e, hlt, _⟩ := h.cells hp
  rw [e] at hx; cases hx; exact hlt
theorem Bytes.take {w : World} {a : Option Addr} {l : List Int} (h : Bytes w a l) (n : Nat) : Bytes w a (l.take n) := by
  refine ⟨by have := h.len; simp; omega, fun hl => ?_⟩
  obtain ⟨b, off, e, hlt, hc⟩ := h.cells (by simp at hl; omega)
  refine ⟨b, off, e, hlt, fun i hi => ?_⟩
  have hi' : i < l.length := by simp at hi; omega
  have := hc i hi'
  simpa using this

set_option maxHeartbeats 1000000 in
theorem pick_any (R : Nat) (n : Int) (p : Nat) (w : World) (h : Rd w R p) (hp : p < 100000) (hn0 : 0 ≤ n) (hn1 : n ≤ 1000) :
    Calls Tryd.prog 28 #[.pointer (some ⟨R, 0, none⟩), .int .i64 n] w (PickPost w R n p) := by
  obtain ⟨ab, cb, l, t, hh, hB, hl2, hne⟩ := h.ex
  have c0 := oCellD hh 0
  have c1 := oCellD hh 1
  have f1 : ∀ o, w.frozen? ⟨R, o, none⟩ = false := fun o => by simp [World.frozen?, hh]
  obtain ⟨hR1, hg1⟩ := Rd.next hh hB hl2 hne hp ((p : Int) + 1) rfl
  have hh1 := heap_setCell_same _ _ 1 _ _ (.int .i64 ((p : Int) + 1)) hh
  have hB1 := hB.only hg1 (fun x hx hl e => Nat.lt_irrefl R (by have h1 := hne x hx hl; rw [← (show R = x.block by simpa using e)] at h1; exact h1))
  obtain ⟨w1, hw1⟩ : ∃ w1, w.setCell ⟨R, 1, none⟩ (.int .i64 ((p : Int) + 1)) = w1 := ⟨_, rfl⟩
  rw [hw1] at hR1 hg1 hh1 hB1
  have d0 := oCellD hh1 0
  have d1 := oCellD hh1 1
  simp at d0 d1
  have hfin : ∀ v : Nat, (n < 1 → v = 0) → (1 ≤ n → (v : Int) < n) → PickPost w R n p (.returned (.int .i64 v)) w1 := fun v h1 h2 => ⟨v, rfl, h1, h2, hR1, hg1⟩
  have Hfin : Hid (∀ v : Nat, (n < 1 → v = 0) → (1 ≤ n → (v : Int) < n) → PickPost w R n p (.returned (.int .i64 v)) w1) := hfin
  clear hfin
  by_cases hn : n < 1
  · go_enter Tryd.func28, Tryd.ntmps28
    go_wp2
    go_ret
    exact Hfin.out 0 (fun _ => rfl) (by omega)
  · have hnn : ¬ (n < 1) := hn
    cases l with
    | nil =>
      simp only [List.length_nil] at *
      go_enter Tryd.func28, Tryd.ntmps28
      go_wp2
      go_ret
      exact Hfin.out 0 (fun _ => rfl) (by intro _; omega)
    | cons b0 bs =>
      obtain ⟨b, off, rfl, hbl, hc⟩ := hB1.cells (by simp)
      obtain ⟨N, hN⟩ : ∃ N, (b0 :: bs).length = N := ⟨_, rfl⟩
      have hN0 : 0 < N := by rw [← hN]; simp
      rw [hN] at d0 c0 hl2
      have HN : Hid ((b0 :: bs).length = N) := hN
      have hne0 : ((N : Int) == 0) = false := by simp; omega
      by_cases hk : p < N
      · obtain ⟨e0, e1, e2⟩ := hc p (by rw [hN]; exact hk)
        clear hc
        generalize (b0 :: bs)[p]'(by rw [hN]; exact hk) = y at e0 e1 e2
        obtain ⟨v, hv, hvn⟩ := tmod_nat (n := n) e1 (by omega)
        clear hN
        go_enter Tryd.func28, Tryd.ntmps28
        go_wp2
        go_ret
        exact Hfin.out v (fun h => absurd h (by omega)) (fun _ => hvn)
      · obtain ⟨i1, hi1, hi1n⟩ := tmod_nat (a := (p : Int)) (n := (N : Int)) (by omega) (by omega)
        obtain ⟨i2, hi2, hi2n⟩ := tmod_nat (a := (p : Int) * 7 + 3) (n := (N : Int)) (by omega) (by omega)
        have hj1 : i1 < N := by omega
        have hj2 : i2 < N := by omega
        obtain ⟨e0, e1, e2⟩ := hc i1 (by rw [hN]; exact hj1)
        obtain ⟨g0, g1, g2⟩ := hc i2 (by rw [hN]; exact hj2)
        clear hc
        generalize (b0 :: bs)[i1]'(by rw [hN]; exact hj1) = y at e0 e1 e2
        generalize (b0 :: bs)[i2]'(by rw [hN]; exact hj2) = z at g0 g1 g2
        obtain ⟨q, hq, hqp⟩ : ∃ q : Nat, (p : Int).tdiv (N : Int) = q ∧ q ≤ p := by
          refine ⟨p / N, ?_, Nat.div_le_self _ _⟩
          rw [Int.tdiv_eq_ediv_of_nonneg (by omega)]; rfl
        clear hN
        have hR1l := hR1.lt
        have A0 := fun u : After w1 => u.cell d0 hR1l
        have A1 := fun u : After w1 => u.cell d1 hR1l
        have E0 := fun u : After w1 => u.cell e0 hbl
        have G0 := fun u : After w1 => u.cell g0 hbl
        have hany := after_any
        have hzz : ¬ ((N : Int) = 0) := by omega
        go_enter Tryd.func28, Tryd.ntmps28
        go_wp2
        refine wp_region_after (by kernel_rfl) (by kernel_rfl) ?_
        repeat (go_big_quiet_step (fail))
        refine wpQuiet_nil ?_
        intro w2 hu
        have hb2 := after_of hu
        clear hu
        go_wp2
        go_ret
        obtain ⟨v, hv, hvn⟩ := tmod_nat (n := n) (xor_pos (x := y * 131 + z * 1117 + (p : Int) * 29 + (q : Int) * 53) (by omega) (by omega)) (by omega)
        refine ⟨v, by rw [← hv]; rfl, fun h => absurd h (by omega), fun _ => hvn, hR1.below hb2, ?_⟩
        exact grownBy_trans hg1 ⟨hb2.os, hb2.tape, hb2.output, hb2.size, fun k hk _ => hb2.block k hk⟩

set_option maxHeartbeats 1000000 in
theorem l14Open_any (a : Option Addr) (cap : Nat) (l : List Int) (w : World) (h : Bytes w a l) (hc : l.length ≤ cap) :
    Calls Tryd.prog 17 #[.slice a l.length cap] w fun e w' => e = .returned (.pointer (some ⟨w.heap.size, 0, none⟩)) ∧ Rd w' w.heap.size 0 ∧ Below w.heap.size w w' ∧ w'.heap.size = w.heap.size + 1 := by
  have hlen := h.len
  unfold maxLen at hlen
  by_cases hbig : (2000 : Int) < (l.length : Int)
  · have hcap : 2000 ≤ cap := by omega
    have hr : ∀ T, Rd (w.alloc (.cells #[.slice a 2000 cap, .int .i64 0] T)) w.heap.size 0 := fun T => by
      have h2 : (l.take 2000).length = 2000 := by simp; omega
      have := Rd.new (cap := cap) T (h.take 2000) (by omega)
      rwa [h2] at this
    go_enter Tryd.func17, Tryd.ntmps17
    go_wp2
    go_ret
    exact ⟨rfl, hr _, (Below.refl _ _).alloc (Nat.le_refl _) _, by simp⟩
  · have hr : ∀ T, Rd (w.alloc (.cells #[.slice a l.length cap, .int .i64 0] T)) w.heap.size 0 := fun T => Rd.new T h (by omega)
    go_enter Tryd.func17, Tryd.ntmps17
    go_wp2
    go_ret
    exact ⟨rfl, hr _, (Below.refl _ _).alloc (Nat.le_refl _) _, by simp⟩

set_option maxHeartbeats 1000000 in
theorem num_any (R : Nat) (a : Option Addr) (cap : Nat) (l : List Int) (p : Nat) (w : World) (h : Rd w R p) (hp : p < 100000) (hi : Ints w a l) (hl0 : 0 < l.length) (hl1 : l.length ≤ 1000) (hne : ∀ x, a = some x → x.block ≠ R) :
    Calls Tryd.prog 29 #[.pointer (some ⟨R, 0, none⟩), .slice a l.length cap] w
      fun e w' => ∃ x ∈ l, e = .returned (.int .i64 x) ∧ Rd w' R (p + 1) ∧ w.grownBy w' (some R) := by
  have hcall := pick_any R (l.length : Int) p w h hp (by omega) (by omega)
  go_enter Tryd.func29, Tryd.ntmps29
  go_wp2_with fail
  refine hcall.mono ?_
  rintro e w1 ⟨v, rfl, _, hv, hR1, hg1⟩
  have hvl : v < l.length := by have := hv (by omega); omega
  obtain ⟨b, off, rfl, hlt, hc⟩ := hi.cells hl0
  have hk := hg1.block b hlt (fun e => hne _ rfl (by simpa using e))
  have c0 : w1.cell? ⟨b, off + v, none⟩ = some (.int .i64 l[v]) := (World.cell?_of_block (w := w) hk).trans (hc v hvl)
  go_wp2
  go_ret
  exact ⟨l[v], List.getElem_mem hvl, rfl, hR1, hg1⟩
end Go.Proofs.YtpokhhplgljmiaaDoor
