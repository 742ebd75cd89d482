/- Lists of places: both OccsSame. -/
import Derived.Test.YthlddehmebgfoaaTwo
namespace Go.Proofs.Ythlddehmebgfoaa
open Go.ChangeShapes Go.WideShapes Go.ChangeAt Go.RowKit
set_option linter.unusedVariables false
set_option maxRecDepth 4000

set_option maxHeartbeats 1000000 in
theorem specOccsSame_any (a a' : Option Addr) (cap cap' : Nat) (l l' : List Occ) (w : World) (h : Occs w a l) (h' : Occs w a' l') (hf : ∀ o ∈ l, o.Wf) (hf' : ∀ o ∈ l', o.Wf) :
    Calls Try.prog 62 #[.slice a l.length cap, .slice a' l'.length cap'] w fun e w' => e = .returned (.bool (occsEqB l l')) ∧ Below w.heap.size w w' := by
  have hn := h.len
  have hn' := h'.len
  unfold maxLen at hn hn'
  by_cases hne : l.length = l'.length
  · have h0 : Hid (occsEqB l l' = occsEqB (l.drop 0) (l'.drop 0)) := rfl
    have hnb : ((l.length : Int) != (l'.length : Int)) = false := by simp [hne]
    have Hne : Hid (l.length = l'.length) := hne
    have hle : l.length ≤ l'.length := by omega
    clear hne
    go_enter Try.func62, Try.ntmps62
    go_wp2
    go_loopw [5] (fun i wr => ∃ k : Nat, k ≤ l.length ∧ i = .int .i64 k ∧ Hid (occsEqB l l' = occsEqB (l.drop k) (l'.drop k)) ∧ Below w.heap.size w wr) (fun i _ => l.length - (intOf i).toNat)
    case atStart => exact ⟨0, Nat.zero_le _, rfl, h0, Below.refl _ _⟩
    case round =>
      obtain ⟨k, hk, rfl, hr, hb⟩ := hrel
      by_cases hlt : k < l.length
      · obtain ⟨b, off, p, cp, rfl, hbl, c0, c1, c2, hids⟩ := (h.below hb).at hlt
        obtain ⟨b', off', p', cp', rfl, hbl', d0, d1, d2, hids'⟩ := (h'.below hb).at (k := k) (by omega)
        have hst : Hid (occsEqB (l.drop k) (l'.drop k) = _) := occsEqB_step hlt (show k < l'.length by omega)
        have hlt' : k < l'.length := by omega
        have hw := (hf l[k] (List.getElem_mem hlt)).ids
        have hw' := (hf' l'[k] (List.getElem_mem hlt')).ids
        generalize l[k] = o at c0 c1 c2 hids hst hw
        generalize l'[k] = o' at d0 d1 d2 hids' hst hw'
        have hcall := fun (u : After wr) => calls_after (u := u) (l3Same_any o.fr o.tl p cp o.ids o'.fr o'.tl p' cp' o'.ids u.v (hids.below u.h) (hids'.below u.h) hw hw')
        have a0 := fun u : After wr => u.cell c0 hbl
        have a1 := fun u : After wr => u.cell c1 hbl
        have a2 := fun u : After wr => u.cell c2 hbl
        have g0 := fun u : After wr => u.cell d0 hbl'
        have g1 := fun u : After wr => u.cell d1 hbl'
        have g2 := fun u : After wr => u.cell d2 hbl'
        cases hev : occEqB o.fr o.tl o.ids o'.fr o'.tl o'.ids
        · rw [hev] at hcall
          go_wp2
          have hany := after_any
          refine wp_region_after (by kernel_rfl) (by kernel_rfl) ?_
          repeat (go_big_quiet_step ((go_at_call 39; refine hcall _)))
          refine wpQuiet_nil ?_
          intro w1 hu
          have hbe : Below w.heap.size w w1 := hb.trans ((after_of hu).mono hb.size)
          clear hu
          go_wp2
          go_ret
          exact ⟨ret_bool (by rw [hr.out, hst.out, hev]; rfl), hbe⟩
        · rw [hev] at hcall
          go_wp2
          have hany := after_any
          refine wp_region_after (by kernel_rfl) (by kernel_rfl) ?_
          repeat (go_big_quiet_step ((go_at_call 39; refine hcall _)))
          refine wpQuiet_nil ?_
          intro w1 hu
          have hbe : Below w.heap.size w w1 := hb.trans ((after_of hu).mono hb.size)
          clear hu
          go_wp2
          exact ⟨⟨k + 1, by omega, by go_num, by show _ = _; rw [hr.out, hst.out, hev]; rfl, hbe⟩, by simp [intOf]; omega⟩
      · go_wp2
        go_ret
        exact ⟨ret_bool (by rw [hr.out, occsEqB_end hlt Hne.out]), hb⟩
  · rw [occsEqB_len hne]
    have hnb : ((l.length : Int) != (l'.length : Int)) = true := by simp; omega
    go_enter Try.func62, Try.ntmps62
    go_wp2
    go_ret
    exact ⟨rfl, Below.refl _ _⟩

theorem idsCmp_zero : ∀ (l l' : List Int), idsCmp l l' = 0 ↔ l = l'
  | [], [] => by simp [idsCmp]
  | [], _ :: _ => by simp [idsCmp]
  | _ :: _, [] => by simp [idsCmp]
  | x :: r, y :: s => by
    have ih := idsCmp_zero r s
    simp only [idsCmp]
    by_cases e : x = y
    · rw [if_pos (cmpI_zero.2 e), ih]; simp [e]
    · have e' : ¬ cmpI x y = 0 := fun h => e (cmpI_zero.1 h)
      rw [if_neg e']; simp [e', e]
theorem occCmp_zero (f t : Int) (l : List Int) (f' t' : Int) (l' : List Int) : (occCmp f t l f' t' l' == 0) = occEqB f t l f' t' l' := by
  rw [Bool.eq_iff_iff, occEqB_iff]
  simp only [occCmp, orF, beq_iff_eq]
  by_cases h1 : t = t'
  · rw [if_pos (cmpI_zero.2 h1)]
    by_cases h2 : f = f'
    · rw [if_pos (cmpI_zero.2 h2)]
      have := idsCmp_zero l l'
      split
      · simp_all
      · simp_all
    · have e' : ¬ cmpI f f' = 0 := fun h => h2 (cmpI_zero.1 h)
      rw [if_neg e']; simp [e', h2]
  · have e' : ¬ cmpI t t' = 0 := fun h => h1 (cmpI_zero.1 h)
    rw [if_neg e']; simp [e', h1]

set_option maxHeartbeats 1000000 in
theorem sameOne_any (f t : Int) (a : Option Addr) (cap : Nat) (l : List Int) (f' t' : Int) (a' : Option Addr) (cap' : Nat) (l' : List Int) (w : World) (h : Ints w a l) (h' : Ints w a' l') :
    Calls Try.prog 82 #[.agg #[.int .i64 f, .int .i64 t, .slice a l.length cap], .agg #[.int .i64 f', .int .i64 t', .slice a' l'.length cap']] w
      fun e w' => e = .returned (.bool (occEqB f t l f' t' l')) ∧ Below w.heap.size w w' := by
  have hb0 := below_two w (.cells #[.int .i64 f, .int .i64 t, .slice a l.length cap] 60) (.cells #[.int .i64 f', .int .i64 t', .slice a' l'.length cap'] 60)
  have hx : Hid ((occCmp f t l f' t' l' == 0) = occEqB f t l f' t' l') := occCmp_zero f t l f' t' l'
  go_enter Try.func82, Try.ntmps82
  go_wp2_with fail
  refine (occCompare_any f t _ _ l f' t' _ _ l' _ (h.below hb0) (h'.below hb0)).mono ?_
  rintro e w1 ⟨rfl, hb1⟩
  have hbe := hb0.trans (hb1.mono hb0.size)
  go_wp2
  go_ret
  exact ⟨ret_bool (by rw [← hx.out]), hbe⟩

set_option maxHeartbeats 1000000 in
theorem equalFunc_any (a a' : Option Addr) (cap cap' : Nat) (l l' : List Occ) (w : World) (h : Occs w a l) (h' : Occs w a' l') :
    Calls Try.prog 81 #[.slice a l.length cap, .slice a' l'.length cap', .func (.func 82) #[] #[]] w fun e w' => e = .returned (.bool (occsEqB l l')) ∧ Below w.heap.size w w' := by
  have hn := h.len
  have hn' := h'.len
  unfold maxLen at hn hn'
  by_cases hne : l.length = l'.length
  · have h0 : Hid (occsEqB l l' = occsEqB (l.drop 0) (l'.drop 0)) := rfl
    have hnb : ((l.length : Int) != (l'.length : Int)) = false := by simp [hne]
    have Hne : Hid (l.length = l'.length) := hne
    have hle : l.length ≤ l'.length := by omega
    clear hne
    go_enter Try.func81, Try.ntmps81
    go_wp2
    go_loopw [7, 8, 9, 17] (fun x y z i wr => ∃ k : Nat, k ≤ l.length ∧ i = .int .i64 k ∧ Hid (occsEqB l l' = occsEqB (l.drop k) (l'.drop k)) ∧ Below w.heap.size w wr) (fun _ _ _ i _ => l.length - (intOf i).toNat)
    case atStart => exact ⟨0, Nat.zero_le _, rfl, h0, Below.refl _ _⟩
    case round =>
      obtain ⟨k, hk, rfl, hr, hb⟩ := hrel
      by_cases hlt : k < l.length
      · obtain ⟨b, off, p, cp, rfl, hbl, c0, c1, c2, hids⟩ := (h.below hb).at hlt
        obtain ⟨b', off', p', cp', rfl, hbl', d0, d1, d2, hids'⟩ := (h'.below hb).at (k := k) (by omega)
        have hst : Hid (occsEqB (l.drop k) (l'.drop k) = _) := occsEqB_step hlt (show k < l'.length by omega)
        have hlt' : k < l'.length := by omega
        generalize l[k] = o at c0 c1 c2 hids hst
        generalize l'[k] = o' at d0 d1 d2 hids' hst
        have hb2 := below_two wr (.cells #[.int .i64 o.fr, .int .i64 o.tl, .slice p o.ids.length cp] 60) (.cells #[.int .i64 o'.fr, .int .i64 o'.tl, .slice p' o'.ids.length cp'] 60)
        have hbw := hb.trans (hb2.mono hb.size)
        cases hev : occEqB o.fr o.tl o.ids o'.fr o'.tl o'.ids
        · go_wp2_with fail
          refine (sameOne_any _ _ _ _ o.ids _ _ _ _ o'.ids _ (hids.below hb2) (hids'.below hb2)).mono ?_
          rintro e w1 ⟨rfl, hb1⟩
          have hbe := hbw.trans (hb1.mono hbw.size)
          rw [hev]
          go_wp2
          go_ret
          exact ⟨ret_bool (by rw [hr.out, hst.out, hev]; rfl), hbe⟩
        · go_wp2_with fail
          refine (sameOne_any _ _ _ _ o.ids _ _ _ _ o'.ids _ (hids.below hb2) (hids'.below hb2)).mono ?_
          rintro e w1 ⟨rfl, hb1⟩
          have hbe := hbw.trans (hb1.mono hbw.size)
          rw [hev]
          go_wp2
          exact ⟨⟨k + 1, by omega, by go_num, by show _ = _; rw [hr.out, hst.out, hev]; rfl, hbe⟩, by simp [intOf]; omega⟩
      · go_wp2
        go_ret
        exact ⟨ret_bool (by rw [hr.out, occsEqB_end hlt Hne.out]), hb⟩
  · rw [occsEqB_len hne]
    have hnb : ((l.length : Int) != (l'.length : Int)) = true := by simp; omega
    go_enter Try.func81, Try.ntmps81
    go_wp2
    go_ret
    exact ⟨rfl, Below.refl _ _⟩

set_option maxHeartbeats 1000000 in
theorem implOccsSame_any (a a' : Option Addr) (cap cap' : Nat) (l l' : List Occ) (w : World) (h : Occs w a l) (h' : Occs w a' l') :
    Calls Try.prog 69 #[.slice a l.length cap, .slice a' l'.length cap'] w fun e w' => e = .returned (.bool (occsEqB l l')) ∧ Below w.heap.size w w' := by
  go_enter Try.func69, Try.ntmps69
  go_wp2_with fail
  refine (equalFunc_any _ _ _ _ l l' _ h h').mono ?_
  rintro e w1 ⟨rfl, hb1⟩
  go_wp2
  go_ret
  exact ⟨rfl, hb1⟩
end Go.Proofs.Ythlddehmebgfoaa
