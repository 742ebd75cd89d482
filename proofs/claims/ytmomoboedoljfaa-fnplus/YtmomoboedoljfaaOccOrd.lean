/- The one order of places is a strict total order; lists that ascend by it: one more put, two merged. -/
import Derived.Test.YtmomoboedoljfaaOccP3
import Derived.Test.YtmomoboedoljfaaOccs3
namespace Go.Proofs.Ytmomoboedoljfaa
set_option linter.unusedVariables false
set_option maxRecDepth 4000

theorem cmpI_flip (x y : Int) : cmpI y x = - cmpI x y := by
  unfold cmpI
  split <;> split <;> (try split) <;> omega
theorem idsCmp_flip : ∀ (l m : List Int), idsCmp m l = - idsCmp l m
  | [], [] => by simp [idsCmp]
  | [], _ :: _ => by simp [idsCmp]
  | _ :: _, [] => by simp [idsCmp]
  | x :: r, y :: s => by
    have ih := idsCmp_flip r s
    have hf := cmpI_flip x y
    simp only [idsCmp]
    by_cases e : cmpI x y = 0
    · rw [if_pos e, if_pos (by omega)]; exact ih
    · rw [if_neg e, if_neg (by omega)]; exact hf
theorem idsCmp_trans : ∀ (l m n : List Int), idsCmp l m < 0 → idsCmp m n < 0 → idsCmp l n < 0
  | [], [], n, h, _ => by simp [idsCmp] at h
  | [], _ :: _, [], _, h => by simp [idsCmp] at h
  | [], _ :: _, _ :: _, _, _ => by simp [idsCmp]
  | _ :: _, [], n, h, _ => by simp [idsCmp] at h
  | _ :: _, _ :: _, [], _, h => by simp [idsCmp] at h
  | x :: r, y :: s, z :: t, h, h' => by
    simp only [idsCmp] at h h' ⊢
    by_cases e : cmpI x y = 0
    · have e1 := cmpI_zero.1 e
      subst e1
      rw [if_pos e] at h
      by_cases e' : cmpI x z = 0
      · rw [if_pos e'] at h' ⊢
        exact idsCmp_trans r s t h h'
      · rw [if_neg e'] at h' ⊢
        exact h'
    · rw [if_neg e] at h
      have h1 := cmpI_neg.1 h
      by_cases e' : cmpI y z = 0
      · have e2 := cmpI_zero.1 e'
        subst e2
        rw [if_neg e]; exact h
      · rw [if_neg e'] at h'
        have h2 := cmpI_neg.1 h'
        have h3 : cmpI x z < 0 := cmpI_neg.2 (by omega)
        rw [if_neg (by omega)]; exact h3

def ocmp (x y : Occ) : Int := occCmp x.fr x.tl x.ids y.fr y.tl y.ids
theorem ocmp_def (x y : Occ) : ocmp x y = if cmpI x.tl y.tl = 0 then (if cmpI x.fr y.fr = 0 then idsCmp x.ids y.ids else cmpI x.fr y.fr) else cmpI x.tl y.tl := by
  unfold ocmp occCmp orF orF orF orF
  split
  · split
    · split
      · rename_i h; exact h.symm
      · rfl
    · rfl
  · rfl
theorem ocmp_flip (x y : Occ) : ocmp y x = - ocmp x y := by
  rw [ocmp_def, ocmp_def]
  have h1 := cmpI_flip x.tl y.tl
  have h2 := cmpI_flip x.fr y.fr
  have h3 := idsCmp_flip x.ids y.ids
  by_cases e1 : cmpI x.tl y.tl = 0
  · rw [if_pos e1, if_pos (by omega)]
    by_cases e2 : cmpI x.fr y.fr = 0
    · rw [if_pos e2, if_pos (by omega)]; exact h3
    · rw [if_neg e2, if_neg (by omega)]; exact h2
  · rw [if_neg e1, if_neg (by omega)]; exact h1
theorem ocmp_zero (x y : Occ) : ocmp x y = 0 ↔ x = y := by
  have h := occCmp_zero x.fr x.tl x.ids y.fr y.tl y.ids
  have h2 := oEqB_iff x y
  unfold oEqB at h2
  rw [← h] at h2
  rw [← h2]
  simp [ocmp]
theorem ocmp_trans (x y z : Occ) (h : ocmp x y < 0) (h' : ocmp y z < 0) : ocmp x z < 0 := by
  rw [ocmp_def] at h h' ⊢
  by_cases e1 : cmpI x.tl y.tl = 0
  · rw [if_pos e1] at h
    have q1 := cmpI_zero.1 e1
    rw [q1]
    by_cases e2 : cmpI y.tl z.tl = 0
    · rw [if_pos e2] at h' ⊢
      by_cases e3 : cmpI x.fr y.fr = 0
      · rw [if_pos e3] at h
        have q2 := cmpI_zero.1 e3
        rw [q2]
        by_cases e4 : cmpI y.fr z.fr = 0
        · rw [if_pos e4] at h' ⊢
          exact idsCmp_trans _ _ _ h h'
        · rw [if_neg e4] at h' ⊢
          exact h'
      · rw [if_neg e3] at h
        have q3 := cmpI_neg.1 h
        by_cases e4 : cmpI y.fr z.fr = 0
        · have q4 := cmpI_zero.1 e4
          rw [← q4, if_neg e3]; exact h
        · rw [if_neg e4] at h'
          have q4 := cmpI_neg.1 h'
          have q5 : cmpI x.fr z.fr < 0 := cmpI_neg.2 (by omega)
          rw [if_neg (by omega)]; exact q5
    · rw [if_neg e2] at h' ⊢
      exact h'
  · rw [if_neg e1] at h
    have q1 := cmpI_neg.1 h
    by_cases e2 : cmpI y.tl z.tl = 0
    · have q2 := cmpI_zero.1 e2
      rw [← q2, if_neg e1]; exact h
    · rw [if_neg e2] at h'
      have q2 := cmpI_neg.1 h'
      have q3 : cmpI x.tl z.tl < 0 := cmpI_neg.2 (by omega)
      rw [if_neg (by omega)]; exact q3

/-- Each comes ahead of all behind it. -/
def AscO (l : List Occ) : Prop := l.Pairwise fun x y => ocmp x y < 0
theorem oLess_iff (x y : Occ) : oLess x y = true ↔ ocmp x y < 0 := by simp [oLess, lessB, ocmp]
theorem oLess_not (x y : Occ) : oLess x y = false ↔ ¬ ocmp x y < 0 := by rw [← oLess_iff]; simp
theorem ocmp_irr (x : Occ) : ¬ ocmp x x < 0 := by have := (ocmp_zero x x).2 rfl; omega

/-- What is ok ascends. -/
theorem asc_from : ∀ (p : Option Occ) (l : List Occ), okFromO p l = true → AscO l ∧ ∀ q, p = some q → ∀ x ∈ l, ocmp q x < 0
  | p, [], _ => ⟨List.Pairwise.nil, by simp⟩
  | p, o :: r, h => by
    simp only [okFromO, Bool.and_eq_true] at h
    obtain ⟨⟨h1, h2⟩, h3⟩ := h
    obtain ⟨g1, g2⟩ := asc_from (some o) r h3
    refine ⟨List.pairwise_cons.2 ⟨g2 o rfl, g1⟩, ?_⟩
    rintro q rfl x hx
    have hq : ocmp q o < 0 := by simpa [aheadB, lessB, ocmp] using h2
    rcases List.mem_cons.1 hx with rfl | hx
    · exact hq
    · exact ocmp_trans q o x hq (g2 o rfl x hx)
theorem asc_ok {l : List Occ} (h : occsOkB l = true) : AscO l := by
  simp only [occsOkB, Bool.and_eq_true] at h
  exact (asc_from none l h.2).1
theorem ok_each_from : ∀ (p : Option Occ) (l : List Occ), okFromO p l = true → ∀ x ∈ l, occOkB x.fr x.tl x.ids = true
  | p, [], _ => by simp
  | p, o :: r, h => by
    simp only [okFromO, Bool.and_eq_true] at h
    obtain ⟨⟨h1, h2⟩, h3⟩ := h
    intro x hx
    rcases List.mem_cons.1 hx with rfl | hx
    · exact h1
    · exact ok_each_from (some o) r h3 x hx
theorem ok_each {l : List Occ} (h : occsOkB l = true) : ∀ x ∈ l, occOkB x.fr x.tl x.ids = true := by
  simp only [occsOkB, Bool.and_eq_true] at h
  exact ok_each_from none l h.2
theorem ok_len {l : List Occ} (h : occsOkB l = true) : l.length ≤ 40 := by
  simp only [occsOkB, Bool.and_eq_true, decide_eq_true_eq] at h
  exact h.1

theorem ascO_ext : ∀ (a b : List Occ), AscO a → AscO b → (∀ x, x ∈ a ↔ x ∈ b) → a = b
  | [], [], _, _, _ => rfl
  | [], y :: s, _, _, h => by have := (h y).2 List.mem_cons_self; cases this
  | x :: r, [], _, _, h => by have := (h x).1 List.mem_cons_self; cases this
  | x :: r, y :: s, ha, hb, h => by
    obtain ⟨a1, a2⟩ := List.pairwise_cons.1 ha
    obtain ⟨b1, b2⟩ := List.pairwise_cons.1 hb
    have hxy : x = y := by
      rcases List.mem_cons.1 ((h x).1 List.mem_cons_self) with e | e
      · exact e
      · rcases List.mem_cons.1 ((h y).2 List.mem_cons_self) with e' | e'
        · exact e'.symm
        · have h1 := a1 y e'
          have h2 := b1 x e
          have := ocmp_flip x y
          omega
    subst hxy
    congr 1
    refine ascO_ext r s a2 b2 fun z => ⟨fun hz => ?_, fun hz => ?_⟩
    · rcases List.mem_cons.1 ((h z).1 (List.mem_cons_of_mem _ hz)) with rfl | e
      · exact absurd (a1 z hz) (ocmp_irr z)
      · exact e
    · rcases List.mem_cons.1 ((h z).2 (List.mem_cons_of_mem _ hz)) with rfl | e
      · exact absurd (b1 z hz) (ocmp_irr z)
      · exact e

theorem mem_putF (o : Occ) (l : List Occ) (z : Occ) : z ∈ putF o l ↔ z ∈ l ∨ z = o := by
  unfold putF
  split
  · rename_i h
    have hlt : placeF o l < l.length := by
      by_cases hlt : placeF o l < l.length
      · exact hlt
      · rw [sameAt_out hlt] at h; cases h
    rw [sameAt_in hlt] at h
    have e := (oEqB_iff _ _).1 h
    constructor
    · exact .inl
    · rintro (h | rfl)
      · exact h
      · rw [← e]; exact List.getElem_mem hlt
  · have e : z ∈ l ↔ z ∈ l.take (placeF o l) ∨ z ∈ l.drop (placeF o l) := by
      rw [← List.mem_append, List.take_append_drop]
    rw [List.mem_append, List.mem_cons, e]
    constructor
    · rintro (h | rfl | h)
      · exact .inl (.inl h)
      · exact .inr rfl
      · exact .inl (.inr h)
    · rintro ((h | h) | rfl)
      · exact .inl h
      · exact .inr (.inr h)
      · exact .inr (.inl rfl)
theorem asc_putF (o : Occ) (l : List Occ) (h : AscO l) : AscO (putF o l) := by
  unfold putF
  split
  · exact h
  · rename_i hs
    have hsplit := h
    rw [← List.take_append_drop (placeF o l) l] at hsplit
    obtain ⟨h1, h2, h3⟩ := List.pairwise_append.1 hsplit
    have hbef : ∀ x ∈ l.take (placeF o l), ocmp x o < 0 := by
      intro x hx
      obtain ⟨i, hi, rfl⟩ := List.getElem_of_mem hx
      simp only [List.length_take] at hi
      rw [List.getElem_take]
      exact (oLess_iff _ _).1 (placeF_less o l i (by omega))
    have haft : ∀ x ∈ l.drop (placeF o l), ocmp o x < 0 := by
      intro x hx
      have hlt : placeF o l < l.length := by
        by_cases hlt : placeF o l < l.length
        · exact hlt
        · rw [List.drop_eq_nil_of_le (by omega)] at hx; cases hx
      have hst := (oLess_not _ _).1 (placeF_stop o l hlt)
      rw [sameAt_in hlt] at hs
      have hne : ¬ l[placeF o l] = o := fun e => hs ((oEqB_iff _ _).2 e)
      have h0 : ¬ ocmp l[placeF o l] o = 0 := fun e => hne ((ocmp_zero _ _).1 e)
      have hfl := ocmp_flip l[placeF o l] o
      have hoK : ocmp o l[placeF o l] < 0 := by omega
      rw [List.drop_eq_getElem_cons hlt] at hx h2
      rcases List.mem_cons.1 hx with rfl | hx
      · exact hoK
      · exact ocmp_trans _ _ _ hoK ((List.pairwise_cons.1 h2).1 x hx)
    refine List.pairwise_append.2 ⟨h1, List.pairwise_cons.2 ⟨haft, h2⟩, ?_⟩
    intro x hx y hy
    rcases List.mem_cons.1 hy with rfl | hy
    · exact hbef x hx
    · exact h3 x hx y hy
/-- All of m are put into l, one behind the other. -/
def putAll (l m : List Occ) : List Occ := m.foldl (fun l o => putF o l) l
theorem putAll_snoc (l m : List Occ) (o : Occ) : putAll l (m ++ [o]) = putF o (putAll l m) := by simp [putAll]
theorem mem_putAll (m : List Occ) : ∀ (l : List Occ) (z : Occ), z ∈ putAll l m ↔ z ∈ l ∨ z ∈ m := by
  induction m with
  | nil => intro l z; simp [putAll]
  | cons o r ih =>
    intro l z
    have e : putAll l (o :: r) = putAll (putF o l) r := rfl
    rw [e, ih, mem_putF, List.mem_cons, or_assoc]
theorem asc_putAll (m : List Occ) : ∀ (l : List Occ), AscO l → AscO (putAll l m) := by
  induction m with
  | nil => intro l h; exact h
  | cons o r ih => intro l h; exact ih _ (asc_putF o l h)
theorem putF_len (o : Occ) (l : List Occ) : (putF o l).length ≤ l.length + 1 := by
  unfold putF
  split
  · omega
  · have := placeF_le o l
    simp
    omega
theorem putAll_len (m : List Occ) : ∀ l, (putAll l m).length ≤ l.length + m.length := by
  induction m with
  | nil => intro l; simp [putAll]
  | cons o r ih =>
    intro l
    have e : putAll l (o :: r) = putAll (putF o l) r := rfl
    have := ih (putF o l)
    have := putF_len o l
    rw [e]
    simp
    omega

/-- Two lists merged, each once. -/
def mergeF : List Occ → List Occ → List Occ
  | [], b => b
  | x :: r, [] => x :: r
  | x :: r, y :: s => if ocmp x y < 0 then x :: mergeF r (y :: s) else if ocmp x y = 0 then x :: mergeF r s else y :: mergeF (x :: r) s
  termination_by a b => a.length + b.length
theorem mem_mergeF (a b : List Occ) (z : Occ) : z ∈ mergeF a b ↔ z ∈ a ∨ z ∈ b := by
  fun_induction mergeF a b with
  | case1 b => simp
  | case2 x r => simp
  | case3 x r y s h ih => simp [ih, or_assoc]
  | case4 x r y s h h0 ih =>
    have e := (ocmp_zero _ _).1 h0
    subst e
    simp [ih]
    constructor
    · rintro (h | h | h)
      · exact .inl (.inl h)
      · exact .inl (.inr h)
      · exact .inr (.inr h)
    · rintro ((h | h) | (h | h))
      · exact .inl h
      · exact .inr (.inl h)
      · exact .inl h
      · exact .inr (.inr h)
  | case5 x r y s h h0 ih =>
    simp [ih]
    constructor
    · rintro (h | (h | h) | h)
      · exact .inr (.inl h)
      · exact .inl (.inl h)
      · exact .inl (.inr h)
      · exact .inr (.inr h)
    · rintro ((h | h) | (h | h))
      · exact .inr (.inl (.inl h))
      · exact .inr (.inl (.inr h))
      · exact .inl h
      · exact .inr (.inr h)
theorem asc_mergeF (a b : List Occ) (ha : AscO a) (hb : AscO b) : AscO (mergeF a b) := by
  fun_induction mergeF a b with
  | case1 b => exact hb
  | case2 x r => exact ha
  | case3 x r y s h ih =>
    obtain ⟨a1, a2⟩ := List.pairwise_cons.1 ha
    obtain ⟨b1, b2⟩ := List.pairwise_cons.1 hb
    refine List.pairwise_cons.2 ⟨fun z hz => ?_, ih a2 hb⟩
    rcases (mem_mergeF _ _ z).1 hz with hz | hz
    · exact a1 z hz
    · rcases List.mem_cons.1 hz with rfl | hz
      · exact h
      · exact ocmp_trans _ _ _ h (b1 z hz)
  | case4 x r y s h h0 ih =>
    obtain ⟨a1, a2⟩ := List.pairwise_cons.1 ha
    obtain ⟨b1, b2⟩ := List.pairwise_cons.1 hb
    have e := (ocmp_zero _ _).1 h0
    subst e
    refine List.pairwise_cons.2 ⟨fun z hz => ?_, ih a2 b2⟩
    rcases (mem_mergeF _ _ z).1 hz with hz | hz
    · exact a1 z hz
    · exact b1 z hz
  | case5 x r y s h h0 ih =>
    obtain ⟨a1, a2⟩ := List.pairwise_cons.1 ha
    obtain ⟨b1, b2⟩ := List.pairwise_cons.1 hb
    have hyx : ocmp y x < 0 := by have := ocmp_flip x y; omega
    refine List.pairwise_cons.2 ⟨fun z hz => ?_, ih ha b2⟩
    rcases (mem_mergeF _ _ z).1 hz with hz | hz
    · rcases List.mem_cons.1 hz with rfl | hz
      · exact hyx
      · exact ocmp_trans _ _ _ hyx (a1 z hz)
    · exact b1 z hz
/-- What is merged is what is put, one behind the other. -/
theorem merge_putAll {a b : List Occ} (ha : AscO a) (hb : AscO b) : mergeF a b = putAll a b :=
  ascO_ext _ _ (asc_mergeF a b ha hb) (asc_putAll b a ha) fun z => by rw [mem_mergeF, mem_putAll]
end Go.Proofs.Ytmomoboedoljfaa
