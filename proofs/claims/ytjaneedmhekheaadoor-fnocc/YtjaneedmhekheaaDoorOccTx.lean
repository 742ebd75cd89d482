/- Plain mathematics: places are told apart by their text; places put into a list in whatever order are the list. No program. -/
import Derived.Test.YtjaneedmhekheaaDoorOccT1
import Derived.Test.YtjaneedmhekheaaDoorNumPure
import Derived.Test.YtjaneedmhekheaaDoorOccOrd
import Derived.Test.YtjaneedmhekheaaDoorOr1
namespace Go.Proofs.YtjaneedmhekheaaDoor
set_option linter.unusedVariables false
/-- No digit ahead. -/
def NoDig (r : List UInt8) : Prop := ∀ c, r.head? = some c → ¬ isDig c
theorem noDig_cons {c : UInt8} (r : List UInt8) (h : ¬ isDig c) : NoDig (c :: r) := fun d hd => by
  simp only [List.head?_cons, Option.some.injEq] at hd
  rw [← hd]; exact h
theorem noDig_nil : NoDig [] := fun d hd => by simp at hd
theorem itoa_split {n n' : Int} {r r' : List UInt8} (h0 : 0 ≤ n) (h1 : n ≤ 1000000) (h0' : 0 ≤ n') (h1' : n' ≤ 1000000) (hr : NoDig r) (hr' : NoDig r') (e : Lib.itoa n ++ r = Lib.itoa n' ++ r') : n = n' ∧ r = r' := by
  have a1 := numAt_itoa h0 h1 r hr
  have a2 := numAt_itoa h0' h1' r' hr'
  rw [e, a2] at a1
  simp only [Prod.mk.injEq] at a1
  obtain ⟨rfl, _⟩ := a1
  exact ⟨rfl, List.append_cancel_left e⟩
theorem ids_split : ∀ (l l' : List Int) (t t' : List UInt8), Small l → Small l' → l.flatMap (fun x => (44 : UInt8) :: Lib.itoa x) ++ 41 :: t = l'.flatMap (fun x => (44 : UInt8) :: Lib.itoa x) ++ 41 :: t' → l = l' ∧ t = t'
  | [], [], t, t', _, _, e => by simpa using e
  | [], x' :: r', t, t', _, _, e => by simp at e
  | x :: r, [], t, t', _, _, e => by simp at e
  | x :: r, x' :: r', t, t', h, h', e => by
    have hx := h x (by simp)
    have hx' := h' x' (by simp)
    simp only [List.flatMap_cons, List.cons_append, List.append_assoc, List.cons.injEq, true_and] at e
    have hnd : ∀ (s : List Int) (u : List UInt8), NoDig (s.flatMap (fun x => (44 : UInt8) :: Lib.itoa x) ++ 41 :: u) := fun s u => by
      cases s with
      | nil => exact noDig_cons _ (by decide)
      | cons y s => exact noDig_cons _ (by decide)
    obtain ⟨rfl, e2⟩ := itoa_split hx.1 (by omega) hx'.1 (by omega) (hnd r t) (hnd r' t') e
    obtain ⟨rfl, rfl⟩ := ids_split r r' t t' (fun y hy => h y (by simp [hy])) (fun y hy => h' y (by simp [hy])) e2
    exact ⟨rfl, rfl⟩
theorem occ_split {o o' : Occ} (h : o.Ok) (h' : o'.Ok) {t t' : List UInt8} (e : occText o ++ t = occText o' ++ t') : o = o' ∧ t = t' := by
  obtain ⟨g1, g2, g3, g4⟩ := h.good
  obtain ⟨g1', g2', g3', g4'⟩ := h'.good
  have b : occOkB o.fr o.tl o.ids = true := h
  have b' : occOkB o'.fr o'.tl o'.ids = true := h'
  simp only [occOkB, Bool.and_eq_true, decide_eq_true_eq] at b b'
  obtain ⟨f, tl, ids⟩ := o
  obtain ⟨f', tl', ids'⟩ := o'
  dsimp only at *
  simp only [occText, List.append_assoc, List.cons_append] at e
  obtain ⟨rfl, e1⟩ := itoa_split (by omega) (by omega) (by omega) (by omega) (noDig_cons _ (by decide)) (noDig_cons _ (by decide)) e
  simp only [List.cons.injEq, true_and] at e1
  obtain ⟨rfl, e2⟩ := itoa_split (by omega) (by omega) (by omega) (by omega) (noDig_cons _ (by decide)) (noDig_cons _ (by decide)) e1
  simp only [List.cons.injEq, true_and, List.nil_append] at e2
  cases ids with
  | nil => simp at g1
  | cons x r =>
    cases ids' with
    | nil => simp at g1'
    | cons x' r' =>
      simp only [idsText, sepText, List.append_assoc] at e2
      have hx := g3 x (by simp)
      have hx' := g3' x' (by simp)
      have hnd : ∀ (s : List Int) (u : List UInt8), NoDig (s.flatMap (fun x => (44 : UInt8) :: Lib.itoa x) ++ 41 :: u) := fun s u => by
        cases s with
        | nil => exact noDig_cons _ (by decide)
        | cons y s => exact noDig_cons _ (by decide)
      obtain ⟨rfl, e3⟩ := itoa_split hx.1 (by omega) hx'.1 (by omega) (hnd r t) (hnd r' t') e2
      obtain ⟨rfl, rfl⟩ := ids_split r r' t t' (fun y hy => g3 y (by simp [hy])) (fun y hy => g3' y (by simp [hy])) e3
      exact ⟨rfl, rfl⟩
theorem occs_tail : ∀ (l l' : List Occ), (∀ o ∈ l, o.Ok) → (∀ o ∈ l', o.Ok) → l.flatMap (fun x => (32 : UInt8) :: occText x) = l'.flatMap (fun x => (32 : UInt8) :: occText x) → l = l'
  | [], [], _, _, _ => rfl
  | [], x' :: r', _, _, e => by simp at e
  | x :: r, [], _, _, e => by simp at e
  | x :: r, x' :: r', h, h', e => by
    simp only [List.flatMap_cons, List.cons_append, List.cons.injEq, true_and] at e
    obtain ⟨rfl, e2⟩ := occ_split (h x (by simp)) (h' x' (by simp)) e
    rw [occs_tail r r' (fun y hy => h y (by simp [hy])) (fun y hy => h' y (by simp [hy])) e2]
theorem occText_ne (o : Occ) : occText o ≠ [] := by
  intro e
  have : (occText o).length = 0 := by rw [e]; rfl
  simp only [occText, List.length_append, List.length_cons] at this
  omega
/-- Places that are ok are told apart by their text. -/
theorem occsText_inj {l l' : List Occ} (h : ∀ o ∈ l, o.Ok) (h' : ∀ o ∈ l', o.Ok) (e : occsText l = occsText l') : l = l' := by
  cases l with
  | nil =>
    cases l' with
    | nil => rfl
    | cons x' r' =>
      have : occText x' = [] := (List.append_eq_nil_iff.1 (show occText x' ++ _ = [] from e.symm)).1
      exact absurd this (occText_ne x')
  | cons x r =>
    cases l' with
    | nil =>
      have : occText x = [] := (List.append_eq_nil_iff.1 (show occText x ++ _ = [] from e)).1
      exact absurd this (occText_ne x)
    | cons x' r' =>
      obtain ⟨rfl, e2⟩ := occ_split (h x (by simp)) (h' x' (by simp)) (show occText x ++ _ = occText x' ++ _ from e)
      rw [occs_tail r r' (fun y hy => h y (by simp [hy])) (fun y hy => h' y (by simp [hy])) e2]
/-- What is ascending and ok each, and not too many, is ok. -/
theorem ok_from_asc : ∀ (p : Option Occ) (l : List Occ), (∀ o ∈ l, o.Ok) → AscO l → (∀ q, p = some q → ∀ x ∈ l, ocmp q x < 0) → okFromO p l = true
  | _, [], _, _, _ => rfl
  | p, x :: r, h, ha, hp => by
    simp only [okFromO, Bool.and_eq_true]
    obtain ⟨h1, h2⟩ := List.pairwise_cons.1 ha
    refine ⟨⟨h x (by simp), ?_⟩, ok_from_asc (some x) r (fun o ho => h o (by simp [ho])) h2 (fun q hq y hy => by cases hq; exact h1 y hy)⟩
    cases p with
    | none => rfl
    | some q => exact (oLess_iff q x).2 (hp q rfl x (by simp))
theorem ok_of_asc {l : List Occ} (h : ∀ o ∈ l, o.Ok) (ha : AscO l) (hl : l.length ≤ 40) : occsOkB l = true := by
  simp only [occsOkB, Bool.and_eq_true, decide_eq_true_eq]
  exact ⟨hl, ok_from_asc none l h ha (fun q hq => by cases hq)⟩
theorem putAll_ok {m : List Occ} (h : ∀ o ∈ m, o.Ok) (hm : m.length ≤ 40) : occsOkB (putAll [] m) = true :=
  ok_of_asc (fun o ho => by
    rcases (mem_putAll m [] o).1 ho with h1 | h1
    · cases h1
    · exact h o h1) (asc_putAll m [] List.Pairwise.nil) (by have := putAll_len m []; simp at this; omega)
/-- All of a list that is ok, put in in whatever order, are the list. -/
theorem putAll_same {l m : List Occ} (h : occsOkB l = true) (hm : ∀ o, o ∈ m ↔ o ∈ l) : putAll [] m = l :=
  ascO_ext _ _ (asc_putAll m [] List.Pairwise.nil) (asc_ok h) (fun o => by rw [mem_putAll]; simp [hm])
theorem ok_all {l : List Occ} (h : occsOkB l = true) : ∀ o ∈ l, o.Ok := fun o ho => ok_each h o ho
end Go.Proofs.YtjaneedmhekheaaDoor
