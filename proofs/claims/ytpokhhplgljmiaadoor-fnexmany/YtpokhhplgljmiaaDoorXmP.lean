/- How many parts and which names what is put together of others has. -/
import Derived.Test.YtpokhhplgljmiaaDoorExBd
import Derived.Test.YtpokhhplgljmiaaDoorEx7
namespace Go.Proofs.YtpokhhplgljmiaaDoor
open Go.ChangeShapes Go.WideShapes Go.ChangeAt Go.RowKit
set_option linter.unusedVariables false

theorem many_le (kd sy n : Int) (F : Fo) : manyX kd sy n F ≤ 12 := by
  unfold manyX
  split
  · rename_i h
    simp only [okX, Bool.and_eq_true, decide_eq_true_eq] at h
    omega
  · omega
theorem many_pos {kd sy n : Int} {F : Fo} (h : okX kd sy n F = true) : 0 < manyX kd sy n F := by
  simp [manyX, h]; try omega
theorem syms_le (kd sy n : Int) (F : Fo) : (symsX kd sy n F).length ≤ 5 := by
  unfold symsX
  split
  · exact symsTo_len kd sy F 5
  · simp
theorem plus_kid {kd sy n : Int} {F : Fo} (h : okX 7 0 1 (.cons kd sy n F .nil) = true) : okX kd sy n F = true :=
  ok_kid (k := 0) h rfl (by simp [Fo.size])
theorem seq_kid {kd sy n kd' sy' n' : Int} {F F' : Fo} (h : okX 4 0 0 (.cons kd sy n F (.cons kd' sy' n' F' .nil)) = true) : okX kd sy n F = true ∧ okX kd' sy' n' F' = true :=
  ⟨ok_kid (k := 0) h rfl (by simp [Fo.size]; omega), ok_kid (k := 1) h rfl (by simp [Fo.size]; omega)⟩
theorem many_plus {kd sy n : Int} {F : Fo} (h : okX 7 0 1 (.cons kd sy n F .nil) = true) : manyX 7 0 1 (.cons kd sy n F .nil) = manyX kd sy n F + 1 := by
  simp [manyX, h, plus_kid h, Fo.size]; omega
theorem many_seq {kd sy n kd' sy' n' : Int} {F F' : Fo} (h : okX 4 0 0 (.cons kd sy n F (.cons kd' sy' n' F' .nil)) = true) :
    manyX 4 0 0 (.cons kd sy n F (.cons kd' sy' n' F' .nil)) = manyX kd sy n F + manyX kd' sy' n' F' + 1 := by
  simp [manyX, h, (seq_kid h).1, (seq_kid h).2, Fo.size]; omega
theorem name_plus (s kd sy n : Int) (F : Fo) : nameX s 7 0 (.cons kd sy n F .nil) = nameX s kd sy F := by
  simp [nameX, nameF]
theorem name_seq (s kd sy n kd' sy' n' : Int) (F F' : Fo) : nameX s 4 0 (.cons kd sy n F (.cons kd' sy' n' F' .nil)) = (nameX s kd sy F || nameX s kd' sy' F') := by
  simp [nameX, nameF]
theorem syms_plus {kd sy n : Int} {F : Fo} (h : okX 7 0 1 (.cons kd sy n F .nil) = true) : (symsX 7 0 1 (.cons kd sy n F .nil)).length = (symsX kd sy n F).length := by
  simp only [symsX, h, plus_kid h, if_true, symsTo, name_plus]
theorem filter_or (p q : Int → Bool) : ∀ l : List Int, (l.filter p).length ≤ (l.filter fun x => p x || q x).length ∧ (l.filter q).length ≤ (l.filter fun x => p x || q x).length ∧ (l.filter fun x => p x || q x).length ≤ (l.filter p).length + (l.filter q).length
  | [] => by simp
  | x :: l => by
    have ih := filter_or p q l
    cases hp : p x <;> cases hq : q x <;> simp [hp, hq] <;> omega
theorem syms_seq {kd sy n kd' sy' n' : Int} {F F' : Fo} (h : okX 4 0 0 (.cons kd sy n F (.cons kd' sy' n' F' .nil)) = true) :
    (symsX kd sy n F).length ≤ (symsX 4 0 0 (.cons kd sy n F (.cons kd' sy' n' F' .nil))).length ∧ (symsX kd' sy' n' F').length ≤ (symsX 4 0 0 (.cons kd sy n F (.cons kd' sy' n' F' .nil))).length ∧
      (symsX 4 0 0 (.cons kd sy n F (.cons kd' sy' n' F' .nil))).length ≤ (symsX kd sy n F).length + (symsX kd' sy' n' F').length := by
  simp only [symsX, h, (seq_kid h).1, (seq_kid h).2, if_true, symsTo, name_seq]
  exact filter_or (fun s => nameX s kd sy F) (fun s => nameX s kd' sy' F') _
theorem form_name : ∀ (d : Nat) (kd sy n : Int) (F : Fo), formX d kd sy n F = true → ∃ s : Int, 0 ≤ s ∧ s < 5 ∧ nameX s kd sy F = true
  | 0, _, _, _, _, h => by simp [formX] at h
  | d + 1, kd, sy, n, F, h => by
    simp only [formX, Bool.and_eq_true] at h
    obtain ⟨hh, hf⟩ := h
    have hh' := of_decide_eq_true hh
    by_cases h1 : kd = 1
    · exact ⟨sy, hh'.2.1, hh'.2.2.1, by simp [nameX, h1]⟩
    · cases F with
      | nil =>
        exfalso
        have h0 := hh'.1
        simp only [Fo.len, kidsOf] at h0
        repeat' split at h0
        all_goals omega
      | cons kd' sy' n' k r =>
        cases d with
        | zero => simp [formF] at hf
        | succ d =>
          simp only [formF, Bool.and_eq_true] at hf
          obtain ⟨s, h0, h5, hs⟩ := form_name (d + 1) kd' sy' n' k (by simp only [formX, Bool.and_eq_true]; exact hf.1)
          refine ⟨s, h0, h5, ?_⟩
          simp only [nameX, h1, if_false, nameF, Bool.or_eq_true]
          exact .inl hs
theorem syms_pos {kd sy n : Int} {F : Fo} (h : okX kd sy n F = true) : 0 < (symsX kd sy n F).length := by
  have hf : formX 5 kd sy n F = true := by simp only [okX, Bool.and_eq_true] at h; exact h.1
  obtain ⟨s, h0, h5, hs⟩ := form_name 5 kd sy n F hf
  have : s ∈ symsX kd sy n F := by
    simp only [symsX, h, if_true, symsTo, List.mem_filter, List.mem_map, List.mem_range]
    exact ⟨⟨s.toNat, by omega, by simp; omega⟩, hs⟩
  exact List.length_pos_of_mem this
theorem syms_no {kd sy n : Int} {F : Fo} (h : okX kd sy n F = false) : (symsX kd sy n F).length = 0 := by simp [symsX, h]
theorem many_no {kd sy n : Int} {F : Fo} (h : okX kd sy n F = false) : manyX kd sy n F = 0 := by unfold manyX; rw [h]; rfl
end Go.Proofs.YtpokhhplgljmiaaDoor
