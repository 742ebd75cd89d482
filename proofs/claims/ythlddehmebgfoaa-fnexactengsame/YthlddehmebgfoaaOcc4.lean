/- Where something was found: the one order of places, as the specification reckons it. -/
import Derived.Test.YthlddehmebgfoaaCmp
import Derived.Test.YthlddehmebgfoaaOcc3
namespace Go.Proofs.Ythlddehmebgfoaa
open Go.ChangeShapes Go.WideShapes Go.ChangeAt Go.RowKit
set_option linter.unusedVariables false
set_option maxRecDepth 4000

/-- How two lists of numbers stand: a difference, or of the lengths. -/
def l3F : List Int → List Int → Int
  | [], s => - (s.length : Int)
  | r, [] => r.length
  | x :: r, y :: s => if x = y then l3F r s else wrap64 (x - y)
theorem l3F_nil (l : List Int) : l3F l [] = l.length := by cases l <;> simp [l3F]
theorem l3F_step {l l' : List Int} {k : Nat} (h : k < l.length) (h' : k < l'.length) : l3F (l.drop k) (l'.drop k) = if l[k] = l'[k] then l3F (l.drop (k + 1)) (l'.drop (k + 1)) else wrap64 (l[k] - l'[k]) := by
  rw [List.drop_eq_getElem_cons h, List.drop_eq_getElem_cons h']; rfl
theorem l3F_end {l l' : List Int} {k : Nat} (h : ¬ (k < l.length ∧ k < l'.length)) (hk : k ≤ l.length) (hk' : k ≤ l'.length) : l3F (l.drop k) (l'.drop k) = (l.length : Int) - l'.length := by
  by_cases h1 : k < l.length
  · have e : l'.drop k = [] := List.drop_eq_nil_of_le (by omega)
    rw [e, l3F_nil]
    simp
    omega
  · have e : l.drop k = [] := List.drop_eq_nil_of_le (by omega)
    rw [e]
    simp [l3F]
    omega

set_option maxHeartbeats 1000000 in
theorem l3Ids_any (a a' : Option Addr) (cap cap' : Nat) (l l' : List Int) (w : World) (h : Ints w a l) (h' : Ints w a' l') :
    Calls Try.prog 59 #[.slice a l.length cap, .slice a' l'.length cap'] w fun e w' => e = .returned (.int .i64 (l3F l l')) ∧ Below w.heap.size w w' := by
  have hn := h.len
  have hn' := h'.len
  unfold maxLen at hn hn'
  have hf : Hid (l3F l l' = l3F (l.drop 0) (l'.drop 0)) := rfl
  go_enter Try.func59, Try.ntmps59
  go_wp2
  go_loopw [5] (fun i wr => ∃ k : Nat, k ≤ l.length ∧ k ≤ l'.length ∧ i = .int .i64 k ∧ Hid (l3F l l' = l3F (l.drop k) (l'.drop k)) ∧ Below w.heap.size w wr) (fun i _ => l.length - (intOf i).toNat)
  case atStart => exact ⟨0, Nat.zero_le _, Nat.zero_le _, rfl, hf, Below.refl _ _⟩
  case round =>
    obtain ⟨k, hk, hk', rfl, hr, hb⟩ := hrel
    by_cases hboth : k < l.length ∧ k < l'.length
    · obtain ⟨hlt, hlt'⟩ := hboth
      obtain ⟨b, off, rfl, hbl, hc⟩ := (h.below hb).cells (by omega)
      have c0 := hc k hlt
      obtain ⟨b', off', rfl, hbl', hc'⟩ := (h'.below hb).cells (by omega)
      have d0 := hc' k hlt'
      clear hc hc'
      have hst : Hid (l3F (l.drop k) (l'.drop k) = _) := l3F_step hlt hlt'
      generalize l[k] = ek at c0 hst
      generalize l'[k] = ek' at d0 hst
      by_cases hz : ek = ek'
      · rw [if_pos hz] at hst
        have hq : (ek != ek') = false := by simp [hz]
        clear hz
        go_wp2
        go_quiet (fail)
        have hbe : Below w.heap.size w (wr.drewN nq) := hb.trans ⟨rfl, rfl, rfl, Nat.le_refl _, fun _ _ => rfl⟩
        go_wp2
        exact ⟨⟨k + 1, by omega, by omega, by go_num, by show _ = _; rw [hr.out, hst.out], hbe⟩, by simp [intOf]; omega⟩
      · rw [if_neg hz] at hst
        have hq : (ek != ek') = true := by simpa using hz
        clear hz
        go_wp2
        go_quiet (fail)
        have hbe : Below w.heap.size w (wr.drewN nq) := hb.trans ⟨rfl, rfl, rfl, Nat.le_refl _, fun _ _ => rfl⟩
        have c1 : (wr.drewN nq).cell? ⟨b, off + k, none⟩ = some (.int .i64 ek) := c0
        have d1 : (wr.drewN nq).cell? ⟨b', off' + k, none⟩ = some (.int .i64 ek') := d0
        obtain ⟨wq, hwq⟩ : ∃ wq, wr.drewN nq = wq := ⟨_, rfl⟩
        rw [hwq] at c1 d1 hbe ⊢
        clear c0 d0 hwq
        go_wp2
        go_quiet (fail)
        have hbe2 : Below w.heap.size w (wq.drewN nq) := hbe.trans ⟨rfl, rfl, rfl, Nat.le_refl _, fun _ _ => rfl⟩
        go_wp2
        go_ret
        exact ⟨retI (by rw [hr.out, hst.out]), hbe2⟩
    · have he : Hid (l3F (l.drop k) (l'.drop k) = (l.length : Int) - l'.length) := l3F_end hboth hk hk'
      have hno : ¬ ((k : Int) < (l.length : Int) ∧ (k : Int) < (l'.length : Int)) := by omega
      clear hboth
      go_wp2
      all_goals go_ret
      all_goals exact ⟨retI (by rw [hr.out, he.out]), hb⟩

theorem wrap64_small {x : Int} (h0 : -24 < x) (h1 : x < 24) : wrap64 x = x := by
  unfold wrap64
  omega
theorem wrap64_zero {x y : Int} (hx : I64 x) (hy : I64 y) (h : wrap64 (x - y) = 0) : x = y := by
  unfold wrap64 at h
  unfold I64 at hx hy
  omega
theorem l3F_zero : ∀ (l l' : List Int), (∀ x ∈ l, I64 x) → (∀ x ∈ l', I64 x) → (l3F l l' = 0 ↔ l = l')
  | [], [], _, _ => by simp [l3F]
  | [], _ :: _, _, _ => by simp [l3F] <;> omega
  | _ :: _, [], _, _ => by simp [l3F] <;> omega
  | x :: r, y :: s, h, h' => by
    have ih := l3F_zero r s (fun z hz => h z (by simp [hz])) (fun z hz => h' z (by simp [hz]))
    have hx := h x (by simp)
    have hy := h' y (by simp)
    simp only [l3F]
    by_cases e : x = y
    · rw [if_pos e, ih]; simp [e]
    · rw [if_neg e]
      constructor
      · intro hw; exact absurd (wrap64_zero hx hy hw) e
      · intro hw; simp at hw; exact absurd hw.1 e
/-- Numbers of events. -/
def Small (l : List Int) : Prop := ∀ x ∈ l, 0 ≤ x ∧ x < 24
theorem idsFrom_small : ∀ (l : List Int) (last : Int), idsFrom last l = true → Small l
  | [], _, _ => by intro x hx; cases hx
  | i :: r, last, h => by
    simp [idsFrom] at h
    have := idsFrom_small r i h.2
    intro x hx
    rcases List.mem_cons.1 hx with rfl | hx
    · omega
    · exact this x hx
theorem occOkB_small {f t : Int} {l : List Int} (h : occOkB f t l = true) : Small l := by
  simp [occOkB] at h
  exact idsFrom_small l (-1) h.2
theorem l3F_neg : ∀ (l l' : List Int), Small l → Small l' → (l3F l l' < 0 ↔ idsCmp l l' < 0)
  | [], [], _, _ => by simp [l3F, idsCmp]
  | [], _ :: _, _, _ => by simp [l3F, idsCmp] <;> omega
  | _ :: _, [], _, _ => by simp [l3F, idsCmp] <;> omega
  | x :: r, y :: s, h, h' => by
    have ih := l3F_neg r s (fun z hz => h z (by simp [hz])) (fun z hz => h' z (by simp [hz]))
    have hx := h x (by simp)
    have hy := h' y (by simp)
    simp only [l3F, idsCmp, cmpI_zero]
    by_cases e : x = y
    · rw [if_pos e, if_pos e, ih]
    · rw [if_neg e, if_neg e, wrap64_small (by omega) (by omega), cmpI_neg]; omega
theorem lessB_to {f t f' t' : Int} {l l' : List Int} (h : ¬ t = t') : lessB f t l f' t' l' = decide (t < t') := by
  have : ¬ cmpI t t' = 0 := fun e => h (cmpI_zero.1 e)
  simp [lessB, occCmp, orF, this, cmpI_neg]
theorem lessB_from {f t f' : Int} {l l' : List Int} (h : ¬ f = f') : lessB f t l f' t l' = decide (f < f') := by
  have : ¬ cmpI f f' = 0 := fun e => h (cmpI_zero.1 e)
  have e : cmpI t t = 0 := cmpI_zero.2 rfl
  simp [lessB, occCmp, orF, this, e, cmpI_neg]
theorem lessB_ids {f t : Int} {l l' : List Int} (h : Small l) (h' : Small l') : lessB f t l f t l' = decide (l3F l l' < 0) := by
  have e : cmpI t t = 0 := cmpI_zero.2 rfl
  have e' : cmpI f f = 0 := cmpI_zero.2 rfl
  have : (if idsCmp l l' = 0 then 0 else idsCmp l l') = idsCmp l l' := by split <;> simp_all
  simp [lessB, occCmp, orF, e, e', this, l3F_neg l l' h h']

set_option maxHeartbeats 1000000 in
theorem l3Same_any (f t : Int) (a : Option Addr) (cap : Nat) (l : List Int) (f' t' : Int) (a' : Option Addr) (cap' : Nat) (l' : List Int) (w : World) (h : Ints w a l) (h' : Ints w a' l') (hs : ∀ x ∈ l, I64 x) (hs' : ∀ x ∈ l', I64 x) :
    Calls Try.prog 39 #[.agg #[.int .i64 f, .int .i64 t, .slice a l.length cap], .agg #[.int .i64 f', .int .i64 t', .slice a' l'.length cap']] w
      fun e w' => e = .returned (.bool (occEqB f t l f' t' l')) ∧ Below w.heap.size w w' := by
  have hb0 := below_two w (.cells #[.int .i64 f, .int .i64 t, .slice a l.length cap] 60) (.cells #[.int .i64 f', .int .i64 t', .slice a' l'.length cap'] 60)
  by_cases h1 : f = f'
  · by_cases h2 : t = t'
    · by_cases h3 : l.length = l'.length
      · subst h1 h2
        have hx : Hid (occEqB f t l f t l' = (l3F l l' == 0)) := by
          show _ = _
          rw [Bool.eq_iff_iff, occEqB_iff]
          simp [l3F_zero l l' hs hs']
        have hnb : ((l.length : Int) == (l'.length : Int)) = true := by simp [h3]
        clear h3
        go_enter Try.func39, Try.ntmps39
        go_wp2_with fail
        refine (l3Ids_any _ _ _ _ l l' _ (h.below hb0) (h'.below hb0)).mono ?_
        rintro e w1 ⟨rfl, hb1⟩
        have hbe := hb0.trans (hb1.mono hb0.size)
        go_wp2
        go_ret
        exact ⟨ret_bool (by rw [hx.out]), hbe⟩
      · have hx : occEqB f t l f' t' l' = false := by rw [Bool.eq_false_iff]; intro e; exact h3 (by rw [((occEqB_iff _ _ _ _ _ _).1 e).2.2])
        rw [hx]
        subst h1 h2
        have hnb : ((l.length : Int) == (l'.length : Int)) = false := by simp; omega
        clear hx h3
        go_enter Try.func39, Try.ntmps39
        go_wp2_with fail
        go_ret
        exact ⟨rfl, hb0⟩
    · have hx : occEqB f t l f' t' l' = false := by simp [occEqB, h2]
      rw [hx]
      subst h1
      have hne : (t == t') = false := by simpa using h2
      clear hx h2
      go_enter Try.func39, Try.ntmps39
      go_wp2_with fail
      go_ret
      exact ⟨rfl, hb0⟩
  · have hx : occEqB f t l f' t' l' = false := by simp [occEqB, h1]
    rw [hx]
    have hne : (f == f') = false := by simpa using h1
    clear hx h1
    go_enter Try.func39, Try.ntmps39
    go_wp2_with fail
    go_ret
    exact ⟨rfl, hb0⟩
end Go.Proofs.Ythlddehmebgfoaa
