/- The parts of what is looked for, each once, parts ahead of what they are parts of: as plain data, by their texts. -/
import Derived.Test.YtlopjljmnadhcaaDoorExT1
namespace Go.Proofs.YtlopjljmnadhcaaDoor
open Go.ChangeShapes Go.WideShapes Go.ChangeAt Go.RowKit
set_option linter.unusedVariables false

/-- A part: its kind, what, how much later, the places of its parts. -/
structure GN where
  kd : Int
  sy : Int
  nn : Int
  ks : List Int
abbrev Pl := List (List UInt8 × GN)
/-- Where a text stands. -/
def idxT (t : List UInt8) : Pl → Option Nat
  | [] => none
  | x :: r => if x.1 = t then some 0 else (idxT t r).map (· + 1)
/-- All of a list are put in, and their places. -/
def planF : Fo → Pl → Pl × List Int
  | .nil, S => (S, [])
  | .cons kd sy n k r, S =>
    let p : Pl × Int := match idxT (textX kd sy n k) S with
      | some i => (S, i)
      | none => let q := planF k S; (q.1 ++ [(textX kd sy n k, ⟨kd, sy, n, q.2⟩)], q.1.length)
    let q := planF r p.1
    (q.1, p.2 :: q.2)
def planX (kd sy n : Int) (k : Fo) (S : Pl) : Pl × Int := match idxT (textX kd sy n k) S with
  | some i => (S, i)
  | none => let q := planF k S; (q.1 ++ [(textX kd sy n k, ⟨kd, sy, n, q.2⟩)], q.1.length)
theorem planF_cons (kd sy n : Int) (k r : Fo) (S : Pl) : planF (.cons kd sy n k r) S = ((planF r (planX kd sy n k S).1).1, (planX kd sy n k S).2 :: (planF r (planX kd sy n k S).1).2) := by
  simp only [planF, planX]
theorem planX_there {kd sy n : Int} {k : Fo} {S : Pl} {i : Nat} (h : idxT (textX kd sy n k) S = some i) : planX kd sy n k S = (S, (i : Int)) := by simp only [planX, h]
theorem planX_new {kd sy n : Int} {k : Fo} {S : Pl} (h : idxT (textX kd sy n k) S = none) : planX kd sy n k S = ((planF k S).1 ++ [(textX kd sy n k, ⟨kd, sy, n, (planF k S).2⟩)], ((planF k S).1.length : Int)) := by simp only [planX, h]
/-- The first i of a list are put in. -/
def planTo : Nat → Fo → Pl → Pl × List Int
  | _, .nil, S => (S, [])
  | 0, .cons .., S => (S, [])
  | i + 1, .cons kd sy n k r, S => ((planTo i r (planX kd sy n k S).1).1, (planX kd sy n k S).2 :: (planTo i r (planX kd sy n k S).1).2)
theorem planTo_zero (F : Fo) (S : Pl) : planTo 0 F S = (S, []) := by cases F <;> rfl
theorem planTo_full : ∀ (i : Nat) (F : Fo) (S : Pl), F.len ≤ i → planTo i F S = planF F S
  | i, .nil, S, _ => by cases i <;> rfl
  | 0, .cons .., S, h => by simp [Fo.len] at h
  | i + 1, .cons kd sy n k r, S, h => by
    rw [planF_cons, planTo, planTo_full i r _ (by simpa [Fo.len] using h)]
theorem planTo_next : ∀ (i : Nat) (F : Fo) (S : Pl) (kd sy n : Int) (kids : Fo), F.drop i = .cons kd sy n kids (F.drop (i + 1)) →
    planTo (i + 1) F S = ((planX kd sy n kids (planTo i F S).1).1, (planTo i F S).2 ++ [(planX kd sy n kids (planTo i F S).1).2])
  | i, .nil, S, kd, sy, n, kids, h => by rw [Fo.drop_end i .nil (by simp [Fo.len])] at h; cases h
  | 0, .cons kd' sy' n' k' r, S, kd, sy, n, kids, h => by
    simp only [Fo.drop] at h
    cases h
    simp [planTo, planTo_zero]
  | i + 1, .cons kd' sy' n' k' r, S, kd, sy, n, kids, h => by
    simp only [Fo.drop] at h
    rw [planTo, planTo_next i r _ kd sy n kids h]
    simp [planTo]
theorem planTo_places : ∀ (i : Nat) (F : Fo) (S : Pl), (planTo i F S).2.length = min i F.len
  | i, .nil, S => by cases i <;> simp [planTo, Fo.len]
  | 0, .cons .., S => by simp [planTo]
  | i + 1, .cons kd sy n k r, S => by simp [planTo, planTo_places i r, Fo.len]

theorem idxT_some : ∀ {t : List UInt8} {S : Pl} {i : Nat}, idxT t S = some i → ∃ h : i < S.length, S[i].1 = t
  | t, [], i, h => by simp [idxT] at h
  | t, x :: r, i, h => by
    unfold idxT at h
    split at h
    · cases h; exact ⟨by simp, by simpa⟩
    · cases hr : idxT t r with
      | none => rw [hr] at h; simp at h
      | some j =>
        rw [hr] at h
        simp at h
        subst h
        obtain ⟨hj, e⟩ := idxT_some hr
        exact ⟨by simp; omega, by simpa using e⟩
theorem idxT_none : ∀ {t : List UInt8} {S : Pl}, idxT t S = none → ∀ x ∈ S, x.1 ≠ t
  | t, [], _, x, hx => by simp at hx
  | t, y :: r, h, x, hx => by
    unfold idxT at h
    split at h
    · cases h
    · rename_i hne
      have hr : idxT t r = none := by cases hr : idxT t r with
        | none => rfl
        | some j => rw [hr] at h; simp at h
      rcases List.mem_cons.1 hx with rfl | hx
      · exact hne
      · exact idxT_none hr x hx
theorem idxT_of : ∀ {t : List UInt8} {S : Pl} {i : Nat} (h : i < S.length), (S.map (·.1)).Nodup → S[i].1 = t → idxT t S = some i
  | t, x :: r, 0, _, _, e => by simp at e; simp [idxT, e]
  | t, x :: r, i + 1, h, hn, e => by
    simp only [List.map_cons, List.nodup_cons] at hn
    simp only [List.getElem_cons_succ] at e
    have hi : i < r.length := by simpa using h
    have hne : x.1 ≠ t := by
      intro h2
      exact hn.1 (by rw [h2, ← e]; exact List.mem_map.2 ⟨r[i], List.getElem_mem hi, rfl⟩)
    simp [idxT, hne, idxT_of hi hn.2 e]
theorem idxT_stop {t : List UInt8} {S : Pl} {k : Nat} (h : ∀ x ∈ S.take k, x.1 ≠ t) (hk : k < S.length) (e : S[k].1 = t) : idxT t S = some k := by
  induction S generalizing k with
  | nil => simp at hk
  | cons x r ih =>
    cases k with
    | zero => simp at e; simp [idxT, e]
    | succ k =>
      have hx : x.1 ≠ t := h x (by simp)
      have := ih (k := k) (fun y hy => h y (by simp [hy])) (by simpa using hk) (by simpa using e)
      simp [idxT, hx, this]
theorem idxT_all {t : List UInt8} {S : Pl} (h : ∀ x ∈ S, x.1 ≠ t) : idxT t S = none := by
  induction S with
  | nil => rfl
  | cons x r ih => simp [idxT, h x (by simp), ih (fun y hy => h y (by simp [hy]))]

theorem kids_none {n : Int} {sy : Int} {k : Fo} (h : headB 1 sy n k.len = true) : k = .nil := by
  unfold headB at h
  simp only [decide_eq_true_eq] at h
  have h1 : (0 : Int) = (k.len : Int) := by have := h.1; simpa [kidsOf] using this
  cases k with
  | nil => rfl
  | cons => simp [Fo.len] at h1; omega
theorem textX_kids {kd sy n : Int} {k : Fo} (h : headB kd sy n k.len = true) : (textF k).length ≤ (textX kd sy n k).length := by
  by_cases h1 : kd = 1
  · subst h1
    rw [kids_none h]
    simp [textF]
  · simp only [textX, h1, if_false, List.length_append]; omega
theorem textF_cons (kd sy n : Int) (k r : Fo) : textF (.cons kd sy n k r) = 32 :: textX kd sy n k ++ textF r := by simp [textF, textX]

/-- What is put in is shorter than the whole. -/
theorem planF_texts : ∀ (d : Nat) (F : Fo) (S : Pl), formF d F = true → ∀ x ∈ (planF F S).1, x ∈ S ∨ x.1.length < (textF F).length
  | _, .nil, S, _, x, hx => .inl hx
  | 0, .cons .., S, h, x, hx => by simp [formF] at h
  | d + 1, .cons kd sy n k r, S, h, x, hx => by
    simp only [formF, Bool.and_eq_true] at h
    rw [planF_cons] at hx
    have hl : (textF (.cons kd sy n k r)).length = (textX kd sy n k).length + 1 + (textF r).length := by rw [textF_cons]; simp; omega
    have hk := textX_kids h.1.1
    rcases planF_texts (d + 1) r _ h.2 x hx with h1 | h1
    · cases hi : idxT (textX kd sy n k) S with
      | some i => rw [planX_there hi] at h1; exact .inl h1
      | none =>
        rw [planX_new hi] at h1
        rcases List.mem_append.1 h1 with h2 | h2
        · rcases planF_texts d k S h.1.2 x h2 with h3 | h3
          · exact .inl h3
          · exact .inr (by omega)
        · simp at h2; subst h2; exact .inr (by simp only; omega)
    · exact .inr (by omega)
theorem planF_fresh {d : Nat} {kd sy n : Int} {k : Fo} {S : Pl} (h : formX (d + 1) kd sy n k = true) (hi : idxT (textX kd sy n k) S = none) : ∀ x ∈ (planF k S).1, x.1 ≠ textX kd sy n k := by
  intro x hx e
  simp only [formX, Bool.and_eq_true] at h
  rcases planF_texts d k S h.2 x hx with h1 | h1
  · exact idxT_none hi x h1 e
  · have := textX_kids h.1
    rw [e] at h1
    omega
theorem planF_nodup : ∀ (d : Nat) (F : Fo) (S : Pl), formF d F = true → (S.map (·.1)).Nodup → ((planF F S).1.map (·.1)).Nodup
  | _, .nil, S, _, hn => hn
  | 0, .cons .., S, h, _ => by simp [formF] at h
  | d + 1, .cons kd sy n k r, S, h, hn => by
    have h' := h
    simp only [formF, Bool.and_eq_true] at h
    rw [planF_cons]
    refine planF_nodup (d + 1) r _ h.2 ?_
    cases hi : idxT (textX kd sy n k) S with
    | some i => rw [planX_there hi]; exact hn
    | none =>
      rw [planX_new hi]
      have hf := planF_fresh (d := d) (kd := kd) (sy := sy) (n := n) (k := k) (S := S) (by simp only [formX, Bool.and_eq_true]; exact h.1) hi
      simp only [List.map_append, List.map_cons, List.map_nil]
      refine List.nodup_append.2 ⟨planF_nodup d k S h.1.2 hn, by simp, ?_⟩
      intro a ha b hb
      simp at hb
      subst hb
      obtain ⟨x, hx, rfl⟩ := List.mem_map.1 ha
      exact hf x hx
theorem planX_nodup {d : Nat} {kd sy n : Int} {k : Fo} {S : Pl} (h : formX (d + 1) kd sy n k = true) (hn : (S.map (·.1)).Nodup) : ((planX kd sy n k S).1.map (·.1)).Nodup := by
  have := planF_nodup (d + 1) (.cons kd sy n k .nil) S (by simp only [formX, Bool.and_eq_true] at h; simp [formF, h]) hn
  rw [planF_cons] at this
  simpa [planF] using this
theorem planF_len : ∀ (F : Fo) (S : Pl), S.length ≤ (planF F S).1.length ∧ (planF F S).1.length ≤ S.length + F.size
  | .nil, S => by simp [planF, Fo.size]
  | .cons kd sy n k r, S => by
    rw [planF_cons]
    have h1 := planF_len r (planX kd sy n k S).1
    have h2 := planF_len k S
    simp only [Fo.size]
    cases hi : idxT (textX kd sy n k) S with
    | some i => rw [planX_there hi] at h1 ⊢; simp only at h1 ⊢; omega
    | none => rw [planX_new hi] at h1 ⊢; simp only [List.length_append, List.length_cons, List.length_nil] at h1 ⊢; omega
theorem planX_len (kd sy n : Int) (k : Fo) (S : Pl) : S.length ≤ (planX kd sy n k S).1.length ∧ (planX kd sy n k S).1.length ≤ S.length + k.size + 1 ∧ 0 ≤ (planX kd sy n k S).2 ∧ (planX kd sy n k S).2 < (planX kd sy n k S).1.length := by
  have h2 := planF_len k S
  cases hi : idxT (textX kd sy n k) S with
  | some i =>
    obtain ⟨h, _⟩ := idxT_some hi
    rw [planX_there hi]; simp only; omega
  | none => rw [planX_new hi]; simp only [List.length_append, List.length_cons, List.length_nil]; omega
theorem planTo_len : ∀ (i : Nat) (F : Fo) (S : Pl), S.length ≤ (planTo i F S).1.length ∧ (planTo i F S).1.length ≤ S.length + F.size
  | i, .nil, S => by cases i <;> simp [planTo, Fo.size]
  | 0, .cons .., S => by simp [planTo]
  | i + 1, .cons kd sy n k r, S => by
    have h1 := planTo_len i r (planX kd sy n k S).1
    have h2 := planX_len kd sy n k S
    simp only [planTo, Fo.size]
    omega
theorem planTo_room : ∀ (i : Nat) (F : Fo) (S : Pl), (planTo i F S).1.length + (F.drop i).size ≤ S.length + F.size
  | i, .nil, S => by cases i <;> simp [planTo, Fo.drop, Fo.size]
  | 0, .cons .., S => by simp [planTo, Fo.drop]
  | i + 1, .cons kd sy n k r, S => by
    have h1 := planTo_room i r (planX kd sy n k S).1
    have h2 := planX_len kd sy n k S
    simp only [planTo, Fo.drop, Fo.size]
    omega
theorem planTo_nodup : ∀ (i d : Nat) (F : Fo) (S : Pl), formF (d + 1) F = true → (S.map (·.1)).Nodup → ((planTo i F S).1.map (·.1)).Nodup
  | i, d, .nil, S, _, hn => by cases i <;> exact hn
  | 0, d, .cons .., S, _, hn => hn
  | i + 1, d, .cons kd sy n k r, S, h, hn => by
    simp only [formF, Bool.and_eq_true] at h
    exact planTo_nodup i d r _ h.2 (planX_nodup (d := d) (by simp only [formX, Bool.and_eq_true]; exact h.1) hn)
/-- Each place is one of those. -/
theorem planTo_small (i : Nat) : ∀ (F : Fo) (S : Pl), ∀ p ∈ (planTo i F S).2, 0 ≤ p ∧ p < (planTo i F S).1.length := by
  induction i with
  | zero => intro F S p hp; rw [planTo_zero] at hp; simp at hp
  | succ i ih =>
    intro F S p hp
    cases F with
    | nil => simp [planTo] at hp
    | cons kd sy n k r =>
      simp only [planTo, List.mem_cons] at hp ⊢
      rcases hp with rfl | hp
      · have h1 := planX_len kd sy n k S
        have h2 := planTo_len i r (planX kd sy n k S).1
        omega
      · exact ih r _ p hp
end Go.Proofs.YtlopjljmnadhcaaDoor
