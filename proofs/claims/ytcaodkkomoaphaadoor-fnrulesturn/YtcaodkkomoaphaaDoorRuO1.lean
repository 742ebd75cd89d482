/- The order in which rules follow: as plain data. -/
import Derived.Test.YtcaodkkomoaphaaDoorInts
namespace Go.Proofs.YtcaodkkomoaphaaDoor
set_option linter.unusedVariables false

/-- The sooner of two: of greater pri, or of the same and ahead. -/
def bef (pr : Int → Int) (i j : Int) : Prop := pr j < pr i ∨ (pr i = pr j ∧ i < j)
theorem bef_uniq (pr : Int → Int) : ∀ (S T : List Int), S.Pairwise (bef pr) → T.Pairwise (bef pr) → (∀ y, y ∈ S ↔ y ∈ T) → S = T
  | [], [], _, _, _ => rfl
  | [], y :: T, _, _, h => by have := (h y).2 (List.mem_cons_self); cases this
  | x :: S, [], _, _, h => by have := (h x).1 (List.mem_cons_self); cases this
  | x :: S, y :: T, hS, hT, h => by
    rw [List.pairwise_cons] at hS hT
    have hxy : x = y := by
      rcases List.mem_cons.1 ((h x).1 (List.mem_cons_self)) with e | e
      · exact e
      · rcases List.mem_cons.1 ((h y).2 (List.mem_cons_self)) with e' | e'
        · exact e'.symm
        · have h1 := hT.1 x e
          have h2 := hS.1 y e'
          unfold bef at h1 h2
          omega
    subst hxy
    rw [bef_uniq pr S T hS.2 hT.2 (fun z => ⟨fun hz => ?_, fun hz => ?_⟩)]
    · rcases List.mem_cons.1 ((h z).1 (List.mem_cons_of_mem _ hz)) with e | e
      · subst e; have := hS.1 _ hz; unfold bef at this; omega
      · exact e
    · rcases List.mem_cons.1 ((h z).2 (List.mem_cons_of_mem _ hz)) with e | e
      · subst e; have := hT.1 _ hz; unfold bef at this; omega
      · exact e

/-- One more is put in: behind those that are as good or better. -/
def insP (pr : Int → Int) (e : Int) (P : List Int) : List Int := P.filter (fun y => decide (pr e ≤ pr y)) ++ e :: P.filter (fun y => !decide (pr e ≤ pr y))
def ordS (pr : Int → Int) : Nat → List Int
  | 0 => []
  | n + 1 => insP pr n (ordS pr n)
theorem ordS_mem (pr : Int → Int) : ∀ (n : Nat) (y : Int), y ∈ ordS pr n ↔ 0 ≤ y ∧ y < n
  | 0, y => by simp [ordS]
  | n + 1, y => by
    have ih := ordS_mem pr n y
    simp only [ordS, insP, List.mem_append, List.mem_cons, List.mem_filter, ih]
    constructor
    · rintro (⟨h, _⟩ | rfl | ⟨h, _⟩) <;> omega
    · intro h
      by_cases e : y = n
      · exact .inr (.inl e)
      · by_cases d : pr n ≤ pr y
        · exact .inl ⟨by omega, by simpa using d⟩
        · exact .inr (.inr ⟨by omega, by simpa using d⟩)
theorem ordS_pair (pr : Int → Int) : ∀ (n : Nat), (ordS pr n).Pairwise (bef pr)
  | 0 => List.Pairwise.nil
  | n + 1 => by
    have ih := ordS_pair pr n
    have hm := ordS_mem pr n
    refine List.pairwise_append.2 ⟨ih.filter _, List.pairwise_cons.2 ⟨fun y hy => ?_, ih.filter _⟩, fun a ha b hb => ?_⟩
    · simp only [List.mem_filter] at hy
      have h2 := hy.2
      simp at h2
      exact .inl h2
    · simp only [List.mem_filter] at ha
      have h1 := (hm a).1 ha.1
      have h2 := ha.2
      simp at h2
      rcases List.mem_cons.1 hb with rfl | hb
      · unfold bef; omega
      · simp only [List.mem_filter] at hb
        have h3 := hb.2
        simp at h3
        exact .inl (by omega)
theorem filter_len (p : Int → Bool) : ∀ (l : List Int), (l.filter p).length + (l.filter (fun y => !p y)).length = l.length
  | [] => rfl
  | x :: r => by
    have := filter_len p r
    cases h : p x <;> simp [h] <;> omega
theorem ordS_len (pr : Int → Int) : ∀ (n : Nat), (ordS pr n).length = n
  | 0 => rfl
  | n + 1 => by
    have ih := ordS_len pr n
    have := filter_len (fun y => decide (pr n ≤ pr y)) (ordS pr n)
    simp only [ordS, insP, List.length_append, List.length_cons]
    omega
/-- Whatever is in order and holds just these is this list. -/
theorem ordS_of (pr : Int → Int) (n : Nat) (S : List Int) (h : S.Pairwise (bef pr)) (hm : ∀ y, y ∈ S ↔ 0 ≤ y ∧ y < n) : S = ordS pr n :=
  bef_uniq pr S _ h (ordS_pair pr n) (fun y => (hm y).trans (ordS_mem pr n y).symm)
/-- Where the last of those ahead is as good, and all behind are less, it is put in. -/
theorem insP_of (pr : Int → Int) (e : Int) (P A B : List Int) (hP : P.Pairwise (bef pr)) (hAB : P = A ++ B) (hB : ∀ y ∈ B, pr y < pr e) (hA : ∀ x, A.getLast? = some x → pr e ≤ pr x) : insP pr e P = A ++ e :: B := by
  subst hAB
  have hA' : ∀ y ∈ A, pr e ≤ pr y := by
    intro y hy
    rw [List.pairwise_append] at hP
    rcases List.eq_nil_or_concat A with rfl | ⟨A', x, e⟩
    · cases hy
    · rw [List.concat_eq_append] at e
      subst e
      have hx := hA x (by simp)
      rcases List.mem_append.1 hy with h | h
      · have h1 := (List.pairwise_append.1 hP.1).2.2 y h x (by simp)
        unfold bef at h1
        omega
      · simp at h; subst h; exact hx
  have f1 : A.filter (fun y => decide (pr e ≤ pr y)) = A := List.filter_eq_self.2 (fun y hy => by simpa using hA' y hy)
  have f2 : B.filter (fun y => decide (pr e ≤ pr y)) = [] := List.filter_eq_nil_iff.2 (fun y hy => by simpa using hB y hy)
  have f3 : A.filter (fun y => !decide (pr e ≤ pr y)) = [] := List.filter_eq_nil_iff.2 (fun y hy => by simpa using hA' y hy)
  have f4 : B.filter (fun y => !decide (pr e ≤ pr y)) = B := List.filter_eq_self.2 (fun y hy => by simpa using hB y hy)
  simp [insP, List.filter_append, f1, f2, f3, f4]
/-- The places from e on. -/
def tailI (e n : Nat) : List Int := ((List.range n).map Int.ofNat).drop e
theorem tailI_len (e n : Nat) : (tailI e n).length = n - e := by simp [tailI]
theorem tailI_step {e n : Nat} (h : e < n) : tailI e n = (e : Int) :: tailI (e + 1) n := by
  unfold tailI
  rw [List.drop_eq_getElem_cons (by simpa using h)]
  simp
theorem tailI_end (n : Nat) : tailI n n = [] := by unfold tailI; exact List.drop_eq_nil_of_le (by simp)
theorem swap_list (A Z : List Int) (x e : Int) : ((A ++ x :: e :: Z).set A.length e).set (A.length + 1) x = A ++ e :: x :: Z := by
  rw [List.set_append_right _ _ (Nat.le_refl _), List.set_append_right _ _ (by omega)]
  simp
end Go.Proofs.YtcaodkkomoaphaaDoor
