/- The text of what is looked for, as plain data; its length. -/
import Derived.Test.YtdmcpneppalaiaaDoorEx6
import Derived.Test.YtdmcpneppalaiaaDoorLetter
import Derived.Test.YtdmcpneppalaiaaDoorDec
namespace Go.Proofs.YtdmcpneppalaiaaDoor
open Go.ChangeShapes Go.WideShapes Go.ChangeAt Go.RowKit
set_option linter.unusedVariables false

/-- The word of a kind. -/
def wordB (kd : Int) : List UInt8 := if kd = 2 then [111, 114] else if kd = 3 then [97, 110, 100] else if kd = 4 then [115, 101, 113] else if kd = 5 then [110, 111, 116] else if kd = 6 then [101, 97, 99, 104] else if kd = 7 then [112, 108, 117, 115] else []
/-- The texts of a list, a space ahead of each. -/
def textF : Fo → List UInt8
  | .nil => []
  | .cons kd sy n k r => 32 :: (if kd = 1 then [letB sy] else wordB kd ++ (if kd = 7 then 32 :: Lib.itoa n else []) ++ textF k) ++ textF r
def textX (kd sy n : Int) (F : Fo) : List UInt8 := if kd = 1 then [letB sy] else wordB kd ++ (if kd = 7 then 32 :: Lib.itoa n else []) ++ textF F
/-- The texts of the first i. -/
def textTo : Nat → Fo → List UInt8
  | _, .nil => []
  | 0, .cons .. => []
  | i + 1, .cons kd sy n k r => 32 :: textX kd sy n k ++ textTo i r
theorem textTo_zero (F : Fo) : textTo 0 F = [] := by cases F <;> rfl
theorem textTo_full : ∀ (i : Nat) (F : Fo), F.len ≤ i → textTo i F = textF F
  | i, .nil, _ => by cases i <;> rfl
  | 0, .cons .., h => by simp [Fo.len] at h
  | i + 1, .cons kd sy n k r, h => by simp only [textTo, textF, textTo_full i r (by simpa [Fo.len] using h), textX]
theorem textTo_next : ∀ (i : Nat) (F : Fo) (kd sy n : Int) (kids : Fo), F.drop i = .cons kd sy n kids (F.drop (i + 1)) → textTo (i + 1) F = textTo i F ++ 32 :: textX kd sy n kids
  | i, .nil, kd, sy, n, kids, h => by rw [Fo.drop_end i .nil (by simp [Fo.len])] at h; cases h
  | 0, .cons kd' sy' n' k' r, kd, sy, n, kids, h => by
    simp only [Fo.drop] at h
    cases h
    simp [textTo, textTo_zero]
  | i + 1, .cons kd' sy' n' k' r, kd, sy, n, kids, h => by
    simp only [Fo.drop] at h
    rw [textTo, textTo_next i r kd sy n kids h]
    simp [textTo]
theorem wordB_len (kd : Int) : (wordB kd).length ≤ 4 := by
  unfold wordB
  repeat' split
  all_goals simp
theorem head_n {kd sy n : Int} {len : Nat} (h : headB kd sy n len = true) : 0 ≤ n ∧ n ≤ 20 := by
  unfold headB at h
  simp only [decide_eq_true_eq] at h
  obtain ⟨_, _, _, _, h5⟩ := h
  split at h5 <;> omega
theorem head_kd {kd sy n : Int} {len : Nat} (h : headB kd sy n len = true) : 1 ≤ kd ∧ kd ≤ 7 := by
  unfold headB at h
  simp only [decide_eq_true_eq] at h
  have h1 := h.1
  unfold kidsOf at h1
  repeat' split at h1
  all_goals omega
theorem plus_len {n : Int} (h : 0 ≤ n ∧ n ≤ 20) (kd : Int) : (if kd = 7 then 32 :: Lib.itoa n else []).length ≤ 22 := by
  have h20 : (Lib.itoa n).length ≤ 21 := Lib.itoa_length_le n (by omega) (by omega)
  by_cases h7 : kd = 7
  · rw [if_pos h7, List.length_cons]; omega
  · rw [if_neg h7]; simp
theorem textF_len : ∀ (d : Nat) (F : Fo), formF d F = true → (textF F).length ≤ 30 * F.size
  | d, .nil, _ => by simp [textF]
  | 0, .cons .., h => by simp [formF] at h
  | d + 1, .cons kd sy n k r, h => by
    simp only [formF, Bool.and_eq_true] at h
    have h1 := textF_len d k h.1.2
    have h2 := textF_len (d + 1) r h.2
    have h3 := plus_len (head_n h.1.1) kd
    have h4 := wordB_len kd
    simp only [textF, Fo.size, List.length_append, List.length_cons]
    split
    · simp only [List.length_cons, List.length_nil]; omega
    · simp only [List.length_append]; omega
theorem textX_len {d : Nat} {kd sy n : Int} {F : Fo} (h : formX d kd sy n F = true) : (textX kd sy n F).length ≤ 30 * (F.size + 1) := by
  cases d with
  | zero => simp [formX] at h
  | succ d =>
    simp only [formX, Bool.and_eq_true] at h
    have h1 := textF_len d F h.2
    have h3 := plus_len (head_n h.1) kd
    have h4 := wordB_len kd
    unfold textX
    split
    · simp; omega
    · simp only [List.length_append]; omega

set_option maxHeartbeats 400000 in
theorem specWords_any (w : World) :
    Calls Tryd.prog 42 #[] w fun e w' => e = .returned (.slice (some ⟨w.heap.size, 0, none⟩) 8 8) ∧ Below w.heap.size w w' ∧
      ∀ k : Nat, k < 8 → w'.cell? ⟨w.heap.size, k, none⟩ = some (.string ⟨(wordB k).toArray⟩) := by
  go_enter Tryd.func42, Tryd.ntmps42
  go_wp2
  go_ret
  refine ⟨rfl, (Below.refl _ _).alloc (Nat.le_refl _) _, fun k hk => ?_⟩
  rw [cell_at (heap_alloc_new w _)]
  match k, hk with
  | 0, _ => rfl
  | 1, _ => rfl
  | 2, _ => rfl
  | 3, _ => rfl
  | 4, _ => rfl
  | 5, _ => rfl
  | 6, _ => rfl
  | 7, _ => rfl
end Go.Proofs.YtdmcpneppalaiaaDoor
