/- Where something was found: both OccOk at one. -/
/- Two numbers compared by the library. -/
import Derived.Test.YthlddehmebgfoaaOcc
import Derived.Laws.BitsAllLaws
import Derived.Test.YthlddehmebgfoaaAfter
import Derived.Test.YthlddehmebgfoaaInts
namespace Go.Proofs.Ythlddehmebgfoaa
open Go.ChangeShapes Go.WideShapes Go.ChangeAt Go.RowKit
set_option linter.unusedVariables false
set_option maxRecDepth 4000

/-- Numbers of events, ascending behind last. -/
def idsFrom (last : Int) : List Int → Bool
  | [] => true
  | i :: r => decide (0 ≤ i ∧ i < 24 ∧ last < i) && idsFrom i r
/-- The numbers as bits. -/
def bitsOf (l : List Int) : Nat := l.foldl (fun s i => s ||| 2 ^ i.toNat) 0
theorem bitsOf_snoc (l : List Int) (i : Int) : bitsOf (l ++ [i]) = bitsOf l ||| 2 ^ i.toNat := by simp [bitsOf]
def occOkB (f t : Int) (l : List Int) : Bool := decide (1 ≤ f ∧ f ≤ t ∧ t ≤ 2000 ∧ 0 < l.length) && idsFrom (-1) l

theorem idsFrom_step {last : Int} {l : List Int} {k : Nat} (h : k < l.length) : idsFrom last (l.drop k) = (decide (0 ≤ l[k] ∧ l[k] < 24 ∧ last < l[k]) && idsFrom l[k] (l.drop (k + 1))) := by
  rw [List.drop_eq_getElem_cons h]; rfl
theorem idsFrom_end {last : Int} {l : List Int} {k : Nat} (h : ¬ k < l.length) : idsFrom last (l.drop k) = true := by
  rw [List.drop_eq_nil_of_le (by omega)]; rfl

/-- s is bits, la the highest (-1: none). -/
structure TopBit (s : Nat) (la : Int) : Prop where
  lo : -1 ≤ la
  hi : la < 24
  lt : s < 2 ^ (la + 1).toNat
  ge : 0 ≤ la → 2 ^ la.toNat ≤ s
theorem TopBit.zero : TopBit 0 (-1) := ⟨by omega, by omega, by simp, by omega⟩
theorem TopBit.above {s : Nat} {la i : Int} (h : TopBit s la) (hi : la < i) : (s : Int) / 2 ^ i.toNat = 0 := by
  have h1 := h.lt
  have h2 : 2 ^ (la + 1).toNat ≤ 2 ^ i.toNat := Nat.pow_le_pow_right (by omega) (by omega)
  have : s / 2 ^ i.toNat = 0 := Nat.div_eq_of_lt (by omega)
  have e := congrArg (Int.ofNat) this
  simpa using e
theorem TopBit.within {s : Nat} {la i : Int} (h : TopBit s la) (h0 : 0 ≤ i) (hi : i ≤ la) : ¬ (s : Int) / 2 ^ i.toNat = 0 := by
  have h1 := h.ge (by omega)
  have h2 : 2 ^ i.toNat ≤ 2 ^ la.toNat := Nat.pow_le_pow_right (by omega) (by omega)
  have : 0 < s / 2 ^ i.toNat := Nat.div_pos (by omega) (Nat.two_pow_pos _)
  intro e
  have e' : ((s / 2 ^ i.toNat : Nat) : Int) = 0 := by simpa using e
  omega
theorem TopBit.next {s : Nat} {la i : Int} (h : TopBit s la) (hi : la < i) (h24 : i < 24) : TopBit (s ||| 2 ^ i.toNat) i := by
  have h0 := h.lo
  have h1 := h.lt
  have h2 : 2 ^ (la + 1).toNat ≤ 2 ^ i.toNat := Nat.pow_le_pow_right (by omega) (by omega)
  refine ⟨by omega, h24, ?_, fun _ => Nat.right_le_or⟩
  rw [show (i + 1).toNat = i.toNat + 1 by omega]
  exact Nat.or_lt_two_pow (by rw [Nat.pow_succ]; omega) (Nat.pow_lt_pow_right (by omega) (by omega))
theorem TopBit.small {s : Nat} {la : Int} (h : TopBit s la) : s < 16777216 := by
  have h1 := h.lt
  have h2 : 2 ^ (la + 1).toNat ≤ 2 ^ 24 := Nat.pow_le_pow_right (by omega) (by have := h.hi; omega)
  omega
theorem TopBit.none {s : Nat} {la : Int} (h : TopBit s la) : s = 0 ↔ la = -1 := by
  constructor
  · intro e
    have := h.lo
    by_cases hl : 0 ≤ la
    · have h1 := h.ge hl
      have := Nat.two_pow_pos la.toNat
      omega
    · omega
  · intro e
    have := h.lt
    rw [e] at this
    simpa using this

/-- What idSetOf answers: the bits, and whether they are numbers of events. -/
def setEnd (l : List Int) : Ending := .returned (.tuple #[.int .u32 (if idsFrom (-1) l then (bitsOf l : Int) else 0), .bool (idsFrom (-1) l && decide (0 < l.length))])
theorem setEnd_no {l : List Int} (h : idsFrom (-1) l = false) : Ending.returned (.tuple #[.int .u32 0, .bool false]) = setEnd l := by simp [setEnd, h]
theorem setEnd_yes {l : List Int} {s : Nat} {b : Bool} (h : idsFrom (-1) l = true) (hs : s = bitsOf l) (hb : b = decide (0 < l.length)) : Ending.returned (.tuple #[.int .u32 (s : Int), .bool b]) = setEnd l := by simp [setEnd, h, hs, hb]

theorem box3 {w w1 : World} {x y z : Value} {T : TypeId} (hb1 : Below (w.alloc (.cells #[x, y, z] T)).heap.size (w.alloc (.cells #[x, y, z] T)) w1) :
    w1.cell? ⟨w.heap.size, 0, none⟩ = some x ∧ w1.cell? ⟨w.heap.size, 1, none⟩ = some y ∧ w1.cell? ⟨w.heap.size, 2, none⟩ = some z := by
  have h : w1.heap[w.heap.size]? = some (.cells #[x, y, z] T (0, 0)) := (hb1.block _ (by simp)).trans (heap_alloc_new w _)
  exact ⟨oCell h 0, oCell h 1, oCell h 2⟩

theorem idsFrom_length : ∀ (l : List Int) (last : Int), idsFrom last l = true → -1 ≤ last → last < 24 → (l.length : Int) ≤ 23 - last
  | [], last, _, h1, h2 => by simp; omega
  | i :: r, last, h, h1, h2 => by
    simp [idsFrom] at h
    have := idsFrom_length r i h.2 (by omega) (by omega)
    simp
    omega
theorem occOkB_no {f t : Int} {l : List Int} (h : ¬ (1 ≤ f ∧ f ≤ t ∧ t ≤ 2000 ∧ 0 < l.length ∧ l.length ≤ 24)) : occOkB f t l = false := by
  rw [Bool.eq_false_iff]
  intro e
  simp [occOkB] at e
  have := idsFrom_length l (-1) e.2 (by omega) (by omega)
  omega
theorem occOkB_mid {f t : Int} {l : List Int} (h : 1 ≤ f ∧ f ≤ t ∧ t ≤ 2000 ∧ 0 < l.length ∧ l.length ≤ 24) : occOkB f t l = idsFrom (-1) (l.drop 0) := by
  simp [occOkB]
  intro; omega

/-- The number ahead of place k, -1 of the first. -/
def idPrev (l : List Int) (k : Nat) : Int := match k with | 0 => -1 | j + 1 => l[j]?.getD 0
theorem idPrev_succ {l : List Int} {k : Nat} (h : k < l.length) : idPrev l (k + 1) = l[k] := by simp [idPrev, h]

end Go.Proofs.Ythlddehmebgfoaa
namespace Go.Proofs.Ythlddehmebgfoaa
open Go.ChangeShapes Go.WideShapes Go.ChangeAt Go.RowKit
set_option linter.unusedVariables false
set_option maxRecDepth 4000

theorem retI {a b : Int} (h : a = b) : Ending.returned (.int .i64 a) = .returned (.int .i64 b) := by rw [h]

def cmpI (x y : Int) : Int := if x < y then -1 else if y < x then 1 else 0
theorem cmpI_lt {x y : Int} (h : x < y) : -1 = cmpI x y := by simp [cmpI, h]
theorem cmpI_gt {x y : Int} (h : y < x) : 1 = cmpI x y := by unfold cmpI; rw [if_neg (by omega), if_pos h]
theorem cmpI_eq {x y : Int} (h : x = y) : 0 = cmpI x y := by simp [cmpI, h]
theorem cmpI_zero {x y : Int} : cmpI x y = 0 ↔ x = y := by unfold cmpI; split <;> (try split) <;> omega
theorem cmpI_neg {x y : Int} : cmpI x y < 0 ↔ x < y := by unfold cmpI; split <;> (try split) <;> omega

set_option maxHeartbeats 400000 in
theorem isNaN_any (x : Int) (w : World) : Calls Try.prog 83 #[.int .i64 x] w fun e w' => e = .returned (.bool false) ∧ w' = w := by
  go_enter Try.func83, Try.ntmps83
  go_wp2
  go_ret
  exact ⟨rfl, rfl⟩

set_option maxHeartbeats 400000 in
theorem cmpInt_any (x y : Int) (w : World) : Calls Try.prog 71 #[.int .i64 x, .int .i64 y] w fun e w' => e = .returned (.int .i64 (cmpI x y)) ∧ w' = w := by
  by_cases h1 : x < y
  · go_enter Try.func71, Try.ntmps71
    go_wp2_with (go_at_call 83; refine (isNaN_any _ _).mono ?_; rintro e w' ⟨rfl, rfl⟩)
    go_ret
    exact ⟨retI (cmpI_lt h1), rfl⟩
  · by_cases h2 : y < x
    · go_enter Try.func71, Try.ntmps71
      go_wp2_with (go_at_call 83; refine (isNaN_any _ _).mono ?_; rintro e w' ⟨rfl, rfl⟩)
      go_ret
      exact ⟨retI (cmpI_gt h2), rfl⟩
    · obtain rfl : x = y := by omega
      go_enter Try.func71, Try.ntmps71
      go_wp2_with (go_at_call 83; refine (isNaN_any _ _).mono ?_; rintro e w' ⟨rfl, rfl⟩)
      go_ret
      exact ⟨retI (cmpI_eq rfl), rfl⟩

end Go.Proofs.Ythlddehmebgfoaa
