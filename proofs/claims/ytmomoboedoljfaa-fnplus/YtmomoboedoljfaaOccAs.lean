/- Plain mathematics: what is ascending is ok; places put into a list in whatever order are the list. No program. -/
import Derived.Test.YtmomoboedoljfaaOccOrd
import Derived.Test.YtmomoboedoljfaaOr1
namespace Go.Proofs.Ytmomoboedoljfaa
set_option linter.unusedVariables false
/-- What is ascending and ok each, and not too many, is ok. -/
theorem ok_from_asc : ∀ (p : Option Occ) (l : List Occ), (∀ o ∈ l, o.Ok) → AscO l → (∀ q, p = some q → ∀ x ∈ l, ocmp q x < 0) → okFromO p l = true
  | _, [], _, _, _ => rfl
  | p, x :: r, h, ha, hp => by
    simp only [okFromO, Bool.and_eq_true]
    obtain ⟨h1, h2⟩ := List.pairwise_cons.1 ha
    refine ⟨⟨h x (by simp), ?_⟩, ok_from_asc (some x) r (fun o ho => h o (by simp [ho])) h2 (fun q hq y hy => by cases hq; exact h1 y hy)⟩
    cases p with
    | none => rfl
    | some q => exact (oLess_iff q x).2 (hp q rfl x (by simp))
theorem ok_of_asc {l : List Occ} (h : ∀ o ∈ l, o.Ok) (ha : AscO l) (hl : l.length ≤ 40) : occsOkB l = true := by
  simp only [occsOkB, Bool.and_eq_true, decide_eq_true_eq]
  exact ⟨hl, ok_from_asc none l h ha (fun q hq => by cases hq)⟩
theorem putAll_ok {m : List Occ} (h : ∀ o ∈ m, o.Ok) (hm : m.length ≤ 40) : occsOkB (putAll [] m) = true :=
  ok_of_asc (fun o ho => by
    rcases (mem_putAll m [] o).1 ho with h1 | h1
    · cases h1
    · exact h o h1) (asc_putAll m [] List.Pairwise.nil) (by have := putAll_len m []; simp at this; omega)
/-- All of a list that is ok, put in in whatever order, are the list. -/
theorem putAll_same {l m : List Occ} (h : occsOkB l = true) (hm : ∀ o, o ∈ m ↔ o ∈ l) : putAll [] m = l :=
  ascO_ext _ _ (asc_putAll m [] List.Pairwise.nil) (asc_ok h) (fun o => by rw [mem_putAll]; simp [hm])
theorem ok_all {l : List Occ} (h : occsOkB l = true) : ∀ o ∈ l, o.Ok := fun o ho => ok_each h o ho
end Go.Proofs.Ytmomoboedoljfaa
