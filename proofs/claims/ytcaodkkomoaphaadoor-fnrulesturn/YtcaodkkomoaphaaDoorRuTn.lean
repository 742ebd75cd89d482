/- Rules turned round: what order they have then. -/
import Derived.Test.YtcaodkkomoaphaaDoorRuO4
namespace Go.Proofs.YtcaodkkomoaphaaDoor
set_option linter.unusedVariables false

theorem rulesOk_iff (l : List Ru) : rulesOkB l = true ↔ l.length ≤ 4 ∧ (∀ x ∈ l, ruOkB x = true) ∧ l.Pairwise (fun x y => x.nm ≠ y.nm) := by
  constructor
  · intro h
    refine ⟨rulesOk_len h, fun x hx => ?_, List.pairwise_iff_getElem.2 fun i j hi hj hij e => ?_⟩
    · obtain ⟨i, hi, rfl⟩ := List.mem_iff_getElem.1 hx
      exact rulesOk_get h hi
    · unfold rulesOkB at h
      simp only [Bool.and_eq_true, List.all_eq_true] at h
      have := h.2 j (List.mem_range.2 hj)
      rw [okAtB_get hj, hasNm_yes hi hij e] at this
      simp at this
  · rintro ⟨h1, h2, h3⟩
    refine rulesOk_yes h1 fun i hi => ?_
    rw [okAtB_get hi, h2 _ (List.getElem_mem hi), hasNm_no (fun j hj hji e => (List.pairwise_iff_getElem.1 h3) j i hj hi hji e)]
    rfl
theorem rulesOk_rev {l : List Ru} (h : rulesOkB l = true) : rulesOkB l.reverse = true := by
  obtain ⟨h1, h2, h3⟩ := (rulesOk_iff l).1 h
  refine (rulesOk_iff _).2 ⟨by simpa using h1, fun x hx => h2 x (by simpa using hx), ?_⟩
  rw [List.pairwise_reverse]
  exact h3.imp (fun h e => h e.symm)
theorem priOf_rev {l : List Ru} {y : Int} (h0 : 0 ≤ y) (h1 : y < l.length) : priOf l.reverse (l.length - 1 - y) = priOf l y := by
  obtain ⟨i, rfl⟩ : ∃ i : Nat, y = i := ⟨y.toNat, by omega⟩
  have hi : i < l.length := by omega
  have e : (l.length : Int) - 1 - (i : Int) = ((l.length - 1 - i : Nat) : Int) := by omega
  rw [e, priOf_get (by simp; omega), priOf_get hi, List.getElem_reverse]
  congr 2
  omega
theorem ord_rev {l : List Ru} (h : l.Pairwise (fun x y => x.pri ≠ y.pri)) : ordS (priOf l.reverse) l.length = (ordS (priOf l) l.length).map (fun y => (l.length : Int) - 1 - y) := by
  have hd : ∀ a b : Int, 0 ≤ a → a < l.length → 0 ≤ b → b < l.length → priOf l a = priOf l b → a = b := by
    intro a b ha0 ha1 hb0 hb1 e
    obtain ⟨i, rfl⟩ : ∃ i : Nat, a = i := ⟨a.toNat, by omega⟩
    obtain ⟨j, rfl⟩ : ∃ j : Nat, b = j := ⟨b.toNat, by omega⟩
    have hi : i < l.length := by omega
    have hj : j < l.length := by omega
    rw [priOf_get hi, priOf_get hj] at e
    rcases Nat.lt_trichotomy i j with hij | hij | hij
    · exact absurd e ((List.pairwise_iff_getElem.1 h) i j hi hj hij)
    · rw [hij]
    · exact absurd e.symm ((List.pairwise_iff_getElem.1 h) j i hj hi hij)
  refine (ordS_of _ _ _ ?_ fun y => ?_).symm
  · rw [List.pairwise_map]
    refine (ordS_pair (priOf l) l.length).imp_of_mem fun {a b} ha hb hab => ?_
    have h1 := (ordS_mem _ _ a).1 ha
    have h2 := (ordS_mem _ _ b).1 hb
    unfold bef at hab ⊢
    rw [priOf_rev h1.1 h1.2, priOf_rev h2.1 h2.2]
    rcases hab with hab | ⟨e, hab⟩
    · exact .inl hab
    · have := hd a b h1.1 h1.2 h2.1 h2.2 e
      omega
  · simp only [List.mem_map, ordS_mem]
    constructor
    · rintro ⟨x, hx, rfl⟩
      omega
    · intro hy
      exact ⟨l.length - 1 - y, by omega, by omega⟩
end Go.Proofs.YtcaodkkomoaphaaDoor
