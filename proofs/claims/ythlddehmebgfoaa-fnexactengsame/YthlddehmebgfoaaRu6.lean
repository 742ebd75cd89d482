/- Lists of rules compared, by the specification and by the program. -/
import Derived.Test.YthlddehmebgfoaaRu5
namespace Go.Proofs.Ythlddehmebgfoaa
open Go.ChangeShapes Go.WideShapes Go.ChangeAt Go.RowKit Go.Deep
set_option linter.unusedVariables false
set_option maxRecDepth 4000

set_option maxHeartbeats 2000000 in
theorem specRulesSame_any (a a' : Option Addr) (cap cap' : Nat) (l l' : List Ru) (w : World) (h : Rus w a l) (h' : Rus w a' l') :
    Calls Try.prog 14 #[.slice a l.length cap, .slice a' l'.length cap'] w fun e w' => e = .returned (.bool (rusEqB l l')) ∧ Below w.heap.size w w' := by
  have hn := h.len
  have hn' := h'.len
  unfold maxLen at hn hn'
  by_cases hne : l.length = l'.length
  · have hf : Hid (rusEqB l l' = rusEqB (l.drop 0) (l'.drop 0)) := rfl
    have hnb : ((l.length : Int) != (l'.length : Int)) = false := by simp [hne]
    have Hne : Hid (l.length = l'.length) := hne
    have hle : l.length ≤ l'.length := by omega
    clear hne
    go_enter Try.func14, Try.ntmps14
    go_wp2
    go_loopw [5] (fun i wr => ∃ k : Nat, k ≤ l.length ∧ i = .int .i64 k ∧ Hid (rusEqB l l' = rusEqB (l.drop k) (l'.drop k)) ∧ Below w.heap.size w wr) (fun i _ => l.length - (intOf i).toNat)
    case atStart => exact ⟨0, Nat.zero_le _, rfl, hf, Below.refl _ _⟩
    case round =>
      obtain ⟨k, hk, rfl, hr, hb⟩ := hrel
      by_cases hlt : k < l.length
      · obtain ⟨b, off, p, pc, rfl, hbl, hc, hids⟩ := (h.below hb).at hlt
        obtain ⟨b', off', p', pc', rfl, hbl', hd, hids'⟩ := (h'.below hb).at (k := k) (by omega)
        have hst : Hid (rusEqB (l.drop k) (l'.drop k) = _) := rusEqB_step hlt (show k < l'.length by omega)
        have hlt' : k < l'.length := by omega
        generalize l[k] = o at hc hids hst
        generalize l'[k] = o' at hd hids' hst
        obtain ⟨q0, q1, q2, q3, q4, q5, q6, q7, q8, q9, q10, q11⟩ := hc
        obtain ⟨r0, r1, r2, r3, r4, r5, r6, r7, r8, r9, r10, r11⟩ := hd
        have hcall := fun (u : After wr) => calls_after (u := u) (specSame1_any o o' p p' pc pc' u.v (hids.below u.h) (hids'.below u.h))
        unfold ruV ruC at hcall
        have a0 := fun u : After wr => u.cell q0 hbl
        have a1 := fun u : After wr => u.cell q1 hbl
        have a2 := fun u : After wr => u.cell q2 hbl
        have a3 := fun u : After wr => u.cell q3 hbl
        have a4 := fun u : After wr => u.cell q4 hbl
        have a5 := fun u : After wr => u.cell q5 hbl
        have a6 := fun u : After wr => u.cell q6 hbl
        have a7 := fun u : After wr => u.cell q7 hbl
        have a8 := fun u : After wr => u.cell q8 hbl
        have a9 := fun u : After wr => u.cell q9 hbl
        have a10 := fun u : After wr => u.cell q10 hbl
        have a11 := fun u : After wr => u.cell q11 hbl
        have g0 := fun u : After wr => u.cell r0 hbl'
        have g1 := fun u : After wr => u.cell r1 hbl'
        have g2 := fun u : After wr => u.cell r2 hbl'
        have g3 := fun u : After wr => u.cell r3 hbl'
        have g4 := fun u : After wr => u.cell r4 hbl'
        have g5 := fun u : After wr => u.cell r5 hbl'
        have g6 := fun u : After wr => u.cell r6 hbl'
        have g7 := fun u : After wr => u.cell r7 hbl'
        have g8 := fun u : After wr => u.cell r8 hbl'
        have g9 := fun u : After wr => u.cell r9 hbl'
        have g10 := fun u : After wr => u.cell r10 hbl'
        have g11 := fun u : After wr => u.cell r11 hbl'
        cases hev : ruEqB o o'
        · rw [hev] at hcall
          go_wp2
          have hany := after_any
          refine wp_region_after (by kernel_rfl) (by kernel_rfl) ?_
          repeat (go_big_quiet_step ((go_at_call 38; refine hcall _)))
          refine wpQuiet_nil ?_
          intro w1 hu
          have hbe : Below w.heap.size w w1 := hb.trans ((after_of hu).mono hb.size)
          clear hu
          go_wp2
          go_ret
          exact ⟨ret_bool (by rw [hr.out, hst.out, hev]; rfl), hbe⟩
        · rw [hev] at hcall
          go_wp2
          have hany := after_any
          refine wp_region_after (by kernel_rfl) (by kernel_rfl) ?_
          repeat (go_big_quiet_step ((go_at_call 38; refine hcall _)))
          refine wpQuiet_nil ?_
          intro w1 hu
          have hbe : Below w.heap.size w w1 := hb.trans ((after_of hu).mono hb.size)
          clear hu
          go_wp2
          exact ⟨⟨k + 1, by omega, by go_num, by show _ = _; rw [hr.out, hst.out, hev]; rfl, hbe⟩, by simp [intOf]; omega⟩
      · go_wp2
        go_ret
        exact ⟨ret_bool (by rw [hr.out, rusEqB_end hlt Hne.out]), hb⟩
  · rw [rusEqB_len hne]
    have hnb : ((l.length : Int) != (l'.length : Int)) = true := by simp; omega
    go_enter Try.func14, Try.ntmps14
    go_wp2
    go_ret
    exact ⟨rfl, Below.refl _ _⟩

set_option maxHeartbeats 4000000 in
theorem equalRules_any (b B : Nat) (a' : Option Addr) (cap cap' : Nat) (l l' : List Ru) (w : World) (h : RusHas w B b l) (h' : Rus w a' l') (hs : rusSize l ≤ 1048576) :
    Calls Try.prog 45 #[.slice (some ⟨b, 0, none⟩) l.length cap, .slice a' l'.length cap', .func (.func 46) #[] #[]] w fun e w' => e = .returned (.bool (rusEqB l l')) ∧ Below w.heap.size w w' := by
  have hn := h.len
  have hn' := h'.len
  unfold maxLen at hn hn'
  by_cases hne : l.length = l'.length
  · have hf : Hid (rusEqB l l' = rusEqB (l.drop 0) (l'.drop 0)) := rfl
    have hnb : ((l.length : Int) != (l'.length : Int)) = false := by simp [hne]
    have Hne : Hid (l.length = l'.length) := hne
    have hle : l.length ≤ l'.length := by omega
    clear hne
    go_enter Try.func45, Try.ntmps45
    go_wp2
    go_loopw [17] (fun i wr => ∃ k : Nat, k ≤ l.length ∧ i = .int .i64 k ∧ Hid (rusEqB l l' = rusEqB (l.drop k) (l'.drop k)) ∧ Below w.heap.size w wr) (fun i _ => l.length - (intOf i).toNat)
    case atStart => exact ⟨0, Nat.zero_le _, rfl, hf, Below.refl _ _⟩
    case round =>
      obtain ⟨k, hk, rfl, hr, hb⟩ := hrel
      by_cases hlt : k < l.length
      · have hx := h.below hb
        have hbl := hx.lt
        obtain ⟨M, _, _, _, m3⟩ := hx.one
        have hso : l[k].ks.size ≤ 1048576 := by have := rusTotal_get hlt; unfold ruSize at this; unfold rusSize at hs; omega
        obtain ⟨d, S, hc, hown, _, _⟩ := m3 k hlt
        obtain ⟨b', off', p', pc', rfl, hbl', hd, hids'⟩ := (h'.below hb).at (k := k) (by omega)
        have hst : Hid (rusEqB (l.drop k) (l'.drop k) = _) := rusEqB_step hlt (show k < l'.length by omega)
        have hlt' : k < l'.length := by omega
        clear m3 hx
        generalize l[k] = o at hc hown hst hso
        generalize l'[k] = o' at hd hids' hst
        have b1 := xBelow_new wr (.cells (ruC o (some ⟨d, 0, none⟩) o.ks.len) 84)
        have hd1 := hd.move (w' := wr.alloc (.cells (ruC o (some ⟨d, 0, none⟩) o.ks.len) 84)) (fun q _ _ => b1.cell hbl')
        have hown1 := hown.below b1
        have hids1 := hids'.below b1
        have b2 := xBelow_new (wr.alloc (.cells (ruC o (some ⟨d, 0, none⟩) o.ks.len) 84)) (.cells (ruC o' p' pc') 84)
        have hown2 := hown1.below b2
        have hids2 := hids1.below b2
        have be := hb.trans (b1.mono hb.size)
        have be := be.trans (b2.mono be.size)
        have hcall := fun v hv hv' => implSame1_any o o' d (M k) S p' pc' v hv hv' hso
        unfold ruV at hcall
        unfold ruC at hcall hd1 be hown2 hids2
        clear b1 b2 hown1 hids1
        obtain ⟨q0, q1, q2, q3, q4, q5, q6, q7, q8, q9, q10, q11⟩ := hc
        obtain ⟨r0, r1, r2, r3, r4, r5, r6, r7, r8, r9, r10, r11⟩ := hd1
        go_wp2_with fail
        refine (hcall _ hown2 hids2).mono ?_
        rintro e w3 ⟨rfl, hb3⟩
        have be3 := be.trans (hb3.mono be.size)
        cases hev : ruEqB o o'
        · go_wp2
          go_ret
          exact ⟨ret_bool (by rw [hr.out, hst.out, hev]; rfl), be3⟩
        · go_wp2
          exact ⟨⟨k + 1, by omega, by go_num, by show _ = _; rw [hr.out, hst.out, hev]; rfl, be3⟩, by simp [intOf]; omega⟩
      · go_wp2
        go_ret
        exact ⟨ret_bool (by rw [hr.out, rusEqB_end hlt Hne.out]), hb⟩
  · rw [rusEqB_len hne]
    have hnb : ((l.length : Int) != (l'.length : Int)) = true := by simp; omega
    go_enter Try.func45, Try.ntmps45
    go_wp2
    go_ret
    exact ⟨rfl, Below.refl _ _⟩

theorem implRulesSame_any (b B : Nat) (a' : Option Addr) (cap cap' : Nat) (l l' : List Ru) (w : World) (h : RusHas w B b l) (h' : Rus w a' l') (hs : rusSize l ≤ 1048576) :
    Calls Try.prog 23 #[.slice (some ⟨b, 0, none⟩) l.length cap, .slice a' l'.length cap'] w fun e w' => e = .returned (.bool (rusEqB l l')) ∧ Below w.heap.size w w' := by
  go_enter Try.func23, Try.ntmps23
  go_wp2_with fail
  refine (equalRules_any b B a' cap cap' l l' _ h h' hs).mono ?_
  rintro e w1 ⟨rfl, hb1⟩
  go_wp2
  go_ret
  exact ⟨rfl, hb1⟩
end Go.Proofs.Ythlddehmebgfoaa
