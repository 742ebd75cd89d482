/- The name of a rule: is it one, by the specification and by the program. -/
import Derived.Test.YtohijenlcfkliaaDoorRu4
namespace Go.Proofs.YtohijenlcfkliaaDoor
open Go.ChangeShapes Go.WideShapes Go.ChangeAt Go.RowKit Go.Deep
set_option linter.unusedVariables false
set_option maxRecDepth 4000

def lowB (s : ByteArray) (j : Nat) : Prop := ∀ h : j < s.size, 97 ≤ s[j].toNat ∧ s[j].toNat ≤ 122
instance (s : ByteArray) (j : Nat) : Decidable (lowB s j) := by unfold lowB; infer_instance
/-- 1 to 6 letters. -/
def nameB (s : ByteArray) : Bool := decide (1 ≤ s.size ∧ s.size ≤ 6) && decide (∀ j, j < s.size → lowB s j)
theorem nameB_no {s : ByteArray} {j : Nat} (h : j < s.size) (hb : s[j].toNat < 97 ∨ 122 < s[j].toNat) : nameB s = false := by
  have : ¬ ∀ j, j < s.size → lowB s j := fun e => by have := e j h h; omega
  simp [nameB, this]
theorem nameB_long {s : ByteArray} (h : ¬ (1 ≤ s.size ∧ s.size ≤ 6)) : nameB s = false := by
  simp only [nameB, h, decide_false, Bool.false_and]
theorem nameB_yes {s : ByteArray} (h : 1 ≤ s.size ∧ s.size ≤ 6) (hl : ∀ j, j < s.size → lowB s j) : nameB s = true := by
  unfold nameB
  rw [decide_eq_true h, decide_eq_true hl]
  rfl

set_option maxHeartbeats 1000000 in
theorem specWord_any (s : ByteArray) (w : World) (hs : s.size ≤ maxLen) :
    Calls Tryd.prog 32 #[.string s] w fun e w' => e = .returned (.bool (nameB s)) ∧ Below w.heap.size w w' := by
  unfold maxLen at hs
  obtain ⟨G, hG⟩ : ∃ G, nameB s = G := ⟨_, rfl⟩
  rw [hG]
  have HG : Hid (nameB s = G) := hG
  clear hG
  go_enter Tryd.func32, Tryd.ntmps32
  go_wp2
  go_loopw [3] (fun i wr => ∃ k : Nat, k ≤ s.size ∧ i = .int .i64 k ∧ Hid (∀ j, j < k → lowB s j) ∧ wr = w) (fun i _ => s.size - (intOf i).toNat)
  case atStart => exact ⟨0, Nat.zero_le _, rfl, (by intro j hj; omega : ∀ j, j < 0 → lowB s j), rfl⟩
  case round =>
    obtain ⟨k, hk, rfl, hr, hwr⟩ := hrel
    subst hwr
    by_cases hlt : k < s.size
    · go_wp2
      all_goals first
        | (go_ret
           exact ⟨ret_bool (by rw [← HG.out]; exact (nameB_no hlt (by omega)).symm), Below.refl _ _⟩)
        | (refine ⟨⟨k + 1, by omega, by go_num, ?_, by first | rfl | trivial⟩, by simp [intOf]; omega⟩
           intro j hj h
           by_cases e : j = k
           · subst e; omega
           · exact hr.out j (by omega) h)
    · by_cases h6 : 1 ≤ s.size ∧ s.size ≤ 6
      · have hf : Hid (nameB s = true) := nameB_yes h6 (fun j hj => hr.out j (by omega))
        have g1 : (0 : Int) < s.size := by omega
        have g2 : (s.size : Int) ≤ 6 := by omega
        clear h6
        go_wp2
        go_ret
        exact ⟨ret_bool (by rw [← HG.out, hf.out]), Below.refl _ _⟩
      · have hf : Hid (nameB s = false) := nameB_long h6
        by_cases h0 : s.size = 0
        · go_wp2
          go_ret
          exact ⟨ret_bool (by rw [← HG.out, hf.out]), Below.refl _ _⟩
        · have g1 : (0 : Int) < s.size := by omega
          have g2 : ¬ ((s.size : Int) ≤ 6) := by omega
          clear h6 h0
          go_wp2
          go_ret
          exact ⟨ret_bool (by rw [← HG.out, hf.out]), Below.refl _ _⟩

set_option maxHeartbeats 1000000 in
theorem nameOk_any (s : ByteArray) (w : World) (hs : s.size ≤ maxLen) :
    Calls Tryd.prog 29 #[.string s] w fun e w' => e = .returned (.bool (nameB s)) ∧ Below w.heap.size w w' := by
  unfold maxLen at hs
  obtain ⟨G, hG⟩ : ∃ G, nameB s = G := ⟨_, rfl⟩
  rw [hG]
  have HG : Hid (nameB s = G) := hG
  clear hG
  by_cases h6 : 1 ≤ s.size ∧ s.size ≤ 6
  case neg =>
    have hf : Hid (nameB s = false) := nameB_long h6
    have hw : (decide ((1 : Int) ≤ (s.size : Int)) && decide ((s.size : Int) ≤ 6)) = false := by simp; omega
    clear h6
    go_enter Tryd.func29, Tryd.ntmps29
    go_wp2_with fail
    refine (within_any s.size 1 6 _).mono ?_
    rintro e w1 ⟨rfl, hx⟩
    replace hx := hx.symm
    subst hx
    rw [hw]
    go_wp2
    go_ret
    exact ⟨ret_bool (by rw [← HG.out, hf.out]), Below.refl _ _⟩
  have hw : (decide ((1 : Int) ≤ (s.size : Int)) && decide ((s.size : Int) ≤ 6)) = true := by simp; omega
  have H6 : Hid (1 ≤ s.size ∧ s.size ≤ 6) := h6
  clear h6
  go_enter Tryd.func29, Tryd.ntmps29
  go_wp2_with fail
  refine (within_any s.size 1 6 _).mono ?_
  rintro e w1 ⟨rfl, hx⟩
  replace hx := hx.symm
  subst hx
  rw [hw]
  clear hw
  go_wp2
  go_loopw [10] (fun i wr => ∃ k : Nat, k ≤ s.size ∧ i = .int .i64 k ∧ Hid (∀ j, j < k → lowB s j) ∧ wr = w) (fun i _ => s.size - (intOf i).toNat)
  case atStart => exact ⟨0, Nat.zero_le _, rfl, (by intro j hj; omega : ∀ j, j < 0 → lowB s j), by first | rfl | trivial⟩
  case round =>
    obtain ⟨k, hk, rfl, hr, hwr⟩ := hrel
    subst hwr
    by_cases hlt : k < s.size
    · go_wp2
      all_goals first
        | (go_ret
           exact ⟨ret_bool (by rw [← HG.out]; exact (nameB_no hlt (by omega)).symm), Below.refl _ _⟩)
        | (refine ⟨⟨k + 1, by omega, by go_num, ?_, by first | rfl | trivial⟩, by simp [intOf]; omega⟩
           intro j hj h
           by_cases e : j = k
           · subst e; omega
           · exact hr.out j (by omega) h)
    · have hf : Hid (nameB s = true) := nameB_yes H6.out (fun j hj => hr.out j (by omega))
      go_wp2
      go_ret
      exact ⟨ret_bool (by rw [← HG.out, hf.out]), Below.refl _ _⟩
end Go.Proofs.YtohijenlcfkliaaDoor
