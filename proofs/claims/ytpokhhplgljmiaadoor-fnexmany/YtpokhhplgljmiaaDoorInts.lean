/- A list of numbers: in memory, in a row of its own; its comparison; the marks that are written into it and read of it. -/
import Derived.Test.YtpokhhplgljmiaaDoorEvsOwn
namespace Go.Proofs.YtpokhhplgljmiaaDoor
open Go.ChangeShapes Go.WideShapes Go.ChangeAt Go.RowKit
set_option linter.unusedVariables false

/-- The slice whose address is a holds the numbers l. -/
structure Ints (w : World) (a : Option Addr) (l : List Int) : Prop where
  len : l.length ≤ maxLen
  cells : 0 < l.length → ∃ b off, a = some ⟨b, off, none⟩ ∧ b < w.heap.size ∧ ∀ i (h : i < l.length), w.cell? ⟨b, off + i, none⟩ = some (.int .i64 l[i])

theorem Ints.below {w w' : World} {a : Option Addr} {l : List Int} (h : Ints w a l) (hb : Below w.heap.size w w') : Ints w' a l := by
  refine ⟨h.len, fun hl => ?_⟩
  obtain ⟨b, off, rfl, hlt, hc⟩ := h.cells hl
  exact ⟨b, off, rfl, Nat.lt_of_lt_of_le hlt hb.size, fun i hi => by rw [hb.cell hlt]; exact hc i hi⟩

def intCells (l : List Int) : List Value := l.map fun n => .int .i64 n
theorem intCells_length (l : List Int) : (intCells l).length = l.length := by simp [intCells]
theorem intCells_snoc (l : List Int) (n : Int) : intCells (l ++ [n]) = intCells l ++ [.int .i64 n] := by simp [intCells]

/-- Block b is a row of numbers that nobody else holds: the first ones are l. -/
def IntRow (w : World) (b : Nat) (l : List Int) : Prop :=
  ∃ c t, w.heap[b]? = some (.cells c t (0, 0)) ∧ l.length ≤ c.size ∧ ∀ i (h : i < l.length), c[i]? = some (.int .i64 l[i])
theorem IntRow.of_block {w w' : World} {b : Nat} {l : List Int} (h : IntRow w b l) (e : w'.heap[b]? = w.heap[b]?) : IntRow w' b l := by
  obtain ⟨c, t, hb, r⟩ := h
  exact ⟨c, t, e.trans hb, r⟩

/-- The slice with the address a holds the numbers l in a row of its own, from block B on. -/
structure IntOwn (w : World) (B : Nat) (a : Option Addr) (l : List Int) : Prop where
  len : l.length ≤ maxLen
  ge : ∀ x, a = some x → B ≤ x.block
  row : 0 < l.length → ∃ b, a = some ⟨b, 0, none⟩ ∧ B ≤ b ∧ b < w.heap.size ∧ IntRow w b l

theorem IntOwn.ints {w : World} {B : Nat} {a : Option Addr} {l : List Int} (h : IntOwn w B a l) : Ints w a l := by
  refine ⟨h.len, fun hl => ?_⟩
  obtain ⟨b, rfl, _, hlt, c, t, hb, hs, hc⟩ := h.row hl
  exact ⟨b, 0, rfl, hlt, fun i hi => by simp [World.cell?, hb, hc i hi]⟩
theorem IntOwn.below {w w' : World} {B : Nat} {a : Option Addr} {l : List Int} (h : IntOwn w B a l) (hb : Below w.heap.size w w') : IntOwn w' B a l := by
  refine ⟨h.len, h.ge, fun hl => ?_⟩
  obtain ⟨b, rfl, hB, hlt, hr⟩ := h.row hl
  exact ⟨b, rfl, hB, Nat.lt_of_lt_of_le hlt hb.size, hr.of_block (hb.block b hlt)⟩
theorem intOwn_of {w : World} {B : Nat} {v : Value} {t : TypeId} {l : List Int} (h : w.ownsRow B t 1 v l.length (intCells l)) : ∃ a cap, v = .slice a l.length cap ∧ IntOwn w B a l := by
  rcases h.2 with ⟨rfl, hn⟩ | ⟨g, cap, cur, rfl, hb, hg, hnc, hcm, hcs, htk⟩
  · exact ⟨none, 0, by rw [hn], ⟨by omega, by simp, by omega⟩⟩
  · refine ⟨_, cap, rfl, ⟨by omega, fun x hx => by cases hx; exact hb, fun _ => ⟨g, rfl, hb, (Array.getElem?_eq_some_iff.1 hg).1, cur, t, hg, by rw [hcs]; omega, fun i hi => ?_⟩⟩⟩
    have h1 : (intCells l)[i]? = some (.int .i64 l[i]) := by simp [intCells, hi]
    rw [← htk, List.getElem?_take, if_pos (by omega)] at h1
    rw [Array.getElem?_toList] at h1
    exact h1
theorem IntOwn.only {w w' : World} {B : Nat} {a : Option Addr} {l : List Int} {row : Option Nat} (h : IntOwn w B a l) (hg : w.grownBy w' row) (hne : ∀ x, a = some x → row ≠ some x.block) : IntOwn w' B a l := by
  refine ⟨h.len, h.ge, fun hl => ?_⟩
  obtain ⟨b, rfl, hB, hlt, hr⟩ := h.row hl
  exact ⟨b, rfl, hB, Nat.lt_of_lt_of_le hlt hg.size, hr.of_block (hg.block b hlt (fun e => hne _ rfl e.symm))⟩

def intsEqB : List Int → List Int → Bool
  | [], [] => true
  | x :: r, y :: s => decide (x = y) && intsEqB r s
  | _, _ => false
theorem intsEqB_iff : ∀ (a b : List Int), intsEqB a b = true ↔ a = b
  | [], [] => by simp [intsEqB]
  | [], _ :: _ => by simp [intsEqB]
  | _ :: _, [] => by simp [intsEqB]
  | x :: r, y :: s => by simp [intsEqB, intsEqB_iff r s]
theorem intsEqB_self (a : List Int) : intsEqB a a = true := (intsEqB_iff a a).2 rfl
theorem intsEqB_len {a b : List Int} (h : a.length ≠ b.length) : intsEqB a b = false := by
  rw [Bool.eq_false_iff]; intro e; exact h (by rw [(intsEqB_iff a b).1 e])
theorem intsEqB_step {a b : List Int} {k : Nat} (h : k < a.length) (h' : k < b.length) : intsEqB (a.drop k) (b.drop k) = (decide (a[k] = b[k]) && intsEqB (a.drop (k + 1)) (b.drop (k + 1))) := by
  rw [List.drop_eq_getElem_cons h, List.drop_eq_getElem_cons h']; rfl
theorem intsEqB_end {a b : List Int} {k : Nat} (h : ¬ k < a.length) (h' : a.length = b.length) : intsEqB (a.drop k) (b.drop k) = true := by
  rw [List.drop_eq_nil_of_le (by omega), List.drop_eq_nil_of_le (by omega)]; rfl

def iMarks (k : Int) (n : Nat) : List Int := (List.range n).map fun i => k + (i : Nat)
theorem iMarks_length (k : Int) (n : Nat) : (iMarks k n).length = n := by simp [iMarks]
theorem iMarks_get (k : Int) (n i : Nat) (h : i < (iMarks k n).length) : (iMarks k n)[i] = k + i := by simp [iMarks]
/-- The first j are marked. -/
def iHalf (k : Int) (l : List Int) (j : Nat) : List Int := iMarks k j ++ l.drop j
theorem iHalf_length (k : Int) (l : List Int) (j : Nat) (h : j ≤ l.length) : (iHalf k l j).length = l.length := by simp [iHalf, iMarks_length]; omega
theorem iHalf_zero (k : Int) (l : List Int) : iHalf k l 0 = l := by simp [iHalf, iMarks]
theorem iHalf_full (k : Int) (l : List Int) : iHalf k l l.length = iMarks k l.length := by simp [iHalf]
theorem iHalf_set (k : Int) (l : List Int) (j : Nat) (h : j < l.length) : (iHalf k l j).set j (k + j) = iHalf k l (j + 1) := by
  unfold iHalf
  rw [List.set_append, if_neg (by rw [iMarks_length]; omega), iMarks_length, Nat.sub_self, List.drop_eq_getElem_cons h]
  rw [List.set_cons_zero]
  simp [iMarks, List.range_succ]

theorem IntRow.set1 {w : World} {b : Nat} {l : List Int} (h : IntRow w b l) {j : Nat} (hj : j < l.length) (e : Int) : IntRow (w.setCell ⟨b, j, none⟩ (.int .i64 e)) b (l.set j e) := by
  obtain ⟨c, t, hb, hs, hc⟩ := h
  refine ⟨c.setIfInBounds j (.int .i64 e), t, heap_setCell_same _ _ _ _ _ _ hb, by simpa using hs, ?_⟩
  intro i hi
  rw [List.length_set] at hi
  simp only [List.getElem_set, Array.getElem?_setIfInBounds]
  by_cases hil : j = i
  · subst hil
    simp only [if_true]
    rw [if_pos (by omega)]
  · rw [if_neg hil, if_neg hil]; exact hc i hi
theorem IntRow.facts {w : World} {b : Nat} {l : List Int} (h : IntRow w b l) {j : Nat} (hj : j < l.length) : (∃ v, w.cell? ⟨b, j, none⟩ = some v) ∧ w.frozen? ⟨b, j, none⟩ = false := by
  obtain ⟨c, t, hb, hs, hc⟩ := h
  exact ⟨⟨.int .i64 l[j], by simpa [World.cell?, hb] using hc j hj⟩, by simp [World.frozen?, hb]⟩

theorem iMark_below {w w' : World} {B B' : Nat} {a : Option Addr} {l : List Int} (h : IntOwn w B a l) (hg : w.grownBy w' (a.map (·.block))) (hB : B' ≤ B) (hs : B' ≤ w.heap.size) : Below B' w w' :=
  (Below.refl B' w).grown hg hs (fun k hk => by
    cases a with
    | none => simp at hk
    | some x => simp at hk; have := h.ge x rfl; omega)
theorem Ints.lower {w w' : World} {B : Nat} {a : Option Addr} {l : List Int} (h : Ints w a l) (hlt : ∀ x, a = some x → 0 < l.length → x.block < B) (hb : Below B w w') : Ints w' a l := by
  refine ⟨h.len, fun hl => ?_⟩
  obtain ⟨b, off, rfl, hbl, hc⟩ := h.cells hl
  have hbB : b < B := hlt _ rfl hl
  exact ⟨b, off, rfl, Nat.lt_of_lt_of_le hbl hb.size, fun i hi => by rw [hb.cell hbB]; exact hc i hi⟩
theorem Ints.lt {w : World} {a : Option Addr} {l : List Int} (h : Ints w a l) : ∀ x, a = some x → 0 < l.length → x.block < w.heap.size := by
  intro x hx hl
  obtain ⟨b, off, e, hb, _⟩ := h.cells hl
  rw [e] at hx; cases hx; exact hb

theorem info_int_parts : ∃ i, Tryd.prog.info? 3 = some i ∧ i.zero = some (.int .i64 0) ∧ i.size = 1 ∧ i.bytes = 8 := by
  have hi : (Tryd.prog.info? 3).map (fun i => (i.zero, i.size, i.bytes)) = some (some (.int .i64 0), 1, 8) := by kernel_rfl
  cases h : Tryd.prog.info? 3 with
  | none => rw [h] at hi; simp at hi
  | some i => rw [h] at hi; simp at hi; exact ⟨i, rfl, hi⟩
theorem new_int (w : World) (n : Int) (t : TypeId) : ∀ j u, ([.int .i64 n] : List Value)[j]? = some u → (w.alloc (.cells #[.int .i64 n] t)).cell? ((⟨w.heap.size, 0, none⟩ : Addr).add j) = some u := by
  intro j u hj
  match j, hj with
  | 0, hj => simp at hj; subst hj; simp [Addr.add]
end Go.Proofs.YtpokhhplgljmiaaDoor
