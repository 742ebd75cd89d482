/- At every two lists of rules the program's RulesSame answers as the specification's; the lists read afterwards as before. No condition. -/
import Derived.Test.YtkckeobapckejaaRu6
namespace Go.Proofs.Ytkckeobapckejaa.fnExactRulesSame
open Go.ChangeShapes Go.WideShapes Go.ChangeAt Go.RowKit
set_option linter.unusedVariables false

set_option maxHeartbeats 1000000 in
theorem walk (a : Option Addr) (cap : Nat) (l : List Ru) (a' : Option Addr) (cap' : Nat) (l' : List Ru) (w : World) (h : Rus w a l) (h' : Rus w a' l') :
    Calls Try.prog 3 #[.slice a l.length cap, .slice a' l'.length cap'] w fun e w' => e = .returned (.bool true) ∧ Below w.heap.size w w' := by
  have hlen := h.len
  have hlen' := h'.len
  by_cases hbig : rusSize l ≤ 1048576
  · have hif : szLeft 1048576 (rusSize l) = 1048576 - (rusSize l : Int) := if_neg (by omega)
    have hge : ¬ (1048576 - (rusSize l : Int) < 0) := by omega
    by_cases hbig' : rusSize l + rusSize l' ≤ 1048576
    · have hif' : szLeft (1048576 - rusSize l) (rusSize l') = 1048576 - (rusSize l : Int) - (rusSize l' : Int) := if_neg (by omega)
      have hge' : ¬ (1048576 - (rusSize l : Int) - (rusSize l' : Int) < 0) := by omega
      go_enter Try.func3, Try.ntmps3
      go_wp2_with fail
      refine (szRuleS_any _ _ l _ _ h (by omega) (by omega)).mono ?_
      rintro e wz ⟨rfl, bz⟩
      rw [hif]
      clear hif
      go_wp2_with fail
      refine (szRuleS_any _ _ l' _ _ (h'.below bz) (by omega) (by omega)).mono ?_
      rintro e w0 ⟨rfl, by0⟩
      have b00 := bz.trans (by0.mono bz.size)
      rw [hif']
      clear hif'
      go_wp2_with fail
      refine (toRuleS_any _ _ l _ (h.below b00) (by omega)).mono ?_
      rintro e w1 ⟨rfl, hR1, hb1⟩
      have hr1 := hR1.rus
      have b01 := b00.trans (hb1.mono b00.size)
      go_wp2_with fail
      refine (toRuleS_any _ _ l' _ (h'.below b01) (by omega)).mono ?_
      rintro e w2 ⟨rfl, hR2, hb2⟩
      have hr2 := hR2.rus
      have b02 := b01.trans (hb2.mono b01.size)
      go_wp2_with fail
      refine (specRulesSame_any _ _ _ _ l l' _ (hr1.below hb2) hr2).mono ?_
      rintro e w3 ⟨rfl, hb3⟩
      have b03 := b02.trans (hb3.mono b02.size)
      go_wp2_with fail
      refine (toRuleS_any _ _ l _ (h.below b03) (by omega)).mono ?_
      rintro e w4 ⟨rfl, hR4, hb4⟩
      have hr4 := hR4.rus
      have b04 := b03.trans (hb4.mono b03.size)
      go_wp2_with fail
      refine (toRuleS_any _ _ l' _ (h'.below b04) (by omega)).mono ?_
      rintro e w5 ⟨rfl, hR5, hb5⟩
      have hr5 := hR5.rus
      have b05 := b04.trans (hb5.mono b04.size)
      go_wp2_with fail
      refine (implRulesSame_any _ _ _ _ _ l l' _ (hR4.below hb5) hr5 (by omega)).mono ?_
      rintro e w6 ⟨rfl, hb6⟩
      have b06 := b05.trans (hb6.mono b05.size)
      have b46 := hb5.trans (hb6.mono hb5.size)
      go_wp2_with fail
      refine (toRuleS_any _ _ l _ (h.below b06) (by omega)).mono ?_
      rintro e w7 ⟨rfl, hR7, hb7⟩
      have hr7 := hR7.rus
      have b07 := b06.trans (hb7.mono b06.size)
      have b47 := b46.trans (hb7.mono b46.size)
      have b57 := hb6.trans (hb7.mono hb6.size)
      go_wp2_with fail
      refine (eqRuleS_any _ _ _ _ l l _ (hr4.below b47) hr7).mono ?_
      rintro e w8 ⟨rfl, hb8⟩
      have b08 := b07.trans (hb8.mono b07.size)
      have b58 := b57.trans (hb8.mono b57.size)
      have hself := rusEqB_self l
      go_wp2_with fail
      refine (toRuleS_any _ _ l' _ (h'.below b08) (by omega)).mono ?_
      rintro e w9 ⟨rfl, hR9, hb9⟩
      have hr9 := hR9.rus
      have b09 := b08.trans (hb9.mono b08.size)
      have b59 := b58.trans (hb9.mono b58.size)
      go_wp2_with fail
      refine (eqRuleS_any _ _ _ _ l' l' _ (hr5.below b59) hr9).mono ?_
      rintro e w10 ⟨rfl, hb10⟩
      have b010 := b09.trans (hb10.mono b09.size)
      have hself' := rusEqB_self l'
      go_wp2
      go_ret
      exact ⟨rfl, b010⟩
    · have hif' : szLeft (1048576 - rusSize l) (rusSize l') = -1 := if_pos (by omega)
      go_enter Try.func3, Try.ntmps3
      go_wp2_with fail
      refine (szRuleS_any _ _ l _ _ h (by omega) (by omega)).mono ?_
      rintro e wz ⟨rfl, bz⟩
      rw [hif]
      clear hif
      go_wp2_with fail
      refine (szRuleS_any _ _ l' _ _ (h'.below bz) (by omega) (by omega)).mono ?_
      rintro e w0 ⟨rfl, by0⟩
      have b00 := bz.trans (by0.mono bz.size)
      rw [hif']
      clear hif'
      go_wp2
      go_ret
      exact ⟨rfl, b00⟩
  · have hif : szLeft 1048576 (rusSize l) = -1 := if_pos (by omega)
    go_enter Try.func3, Try.ntmps3
    go_wp2_with fail
    refine (szRuleS_any _ _ l _ _ h (by omega) (by omega)).mono ?_
    rintro e wz ⟨rfl, bz⟩
    rw [hif]
    clear hif
    go_wp2
    go_ret
    exact ⟨rfl, bz⟩

set_option maxRecDepth 100000 in
theorem lifted (os : Os) (started : os.Started) (H : Type) (enc : TypeId × Value → H) :
    ReturnsInHanded {} Try.checked os 3 .any (Rows.fnExactRulesSameSpec.pre6 enc Try.prog Try.f3 Rows.fnExactRulesSameRow.domain false) (Rows.fnExactRulesSameSpec.post enc Try.prog Try.f3 false true false false) := by
  refine returnsInHanded_of_change (C := Try.checked) own started (by kernel_rfl) Try.func3
    (ChangeSpec.witness6 (enc := enc) (C := Try.checked) false ⟨#[], #[.slice none 0 0, .slice none 0 0], []⟩ 8 (by kernel_rfl) (by kernel_rfl) (by kernel_rfl) (by kernel_rfl)) ?_
  intro W base args ds gs before hval0 hW hcnd _
  have hval : ∀ (j : Nat) t v, Try.f3.params[j]? = some t → args[j]? = some v → Value.okWide Try.prog W .any base t v := hval0
  have hW' := hW
  obtain ⟨p, q, hA0, hV, rfl, hfz, hnd⟩ := hW
  have hA : DataW.TrodAll enc Try.prog W 0 (fun _ => true) true Try.f3.params.toList args.toList ds p := hA0
  rw [Try.params3] at hA hval
  obtain ⟨v0, vs0, d0, ds0, p0, q0, hargs, rfl, rfl, h0, r0⟩ := trodAll_cons hA
  obtain ⟨v1, vs1, d1, ds1, p1, q1, rfl, rfl, rfl, h1, r1⟩ := trodAll_cons r0
  obtain ⟨rfl, rfl, rfl⟩ := trodAll_nil r1
  obtain rfl : args = #[v0, v1] := by cases args; simp_all
  obtain ⟨rfl, rfl⟩ := trodVars_none hV
  have k0 := h0
  have lt0 : ∀ x ∈ p0, x.block < W.heap.size := by obtain ⟨m, hm⟩ := k0; exact DataW.trod_lt m _ _ _ hm
  have k1 := h1
  have lt1 : ∀ x ∈ p1, x.block < W.heap.size := by obtain ⟨m, hm⟩ := k1; exact DataW.trod_lt m _ _ _ hm
  obtain ⟨a0, cap0, l0, rfl, e0⟩ := open_rules (hval 0 22 v0 rfl rfl) h0
  obtain ⟨a1, cap1, l1, rfl, e1⟩ := open_rules (hval 1 22 v1 rfl rfl) h1
  clear hA0 hval0
  refine (walk a0 cap0 l0 a1 cap1 l1 W e0 e1).mono fun e W' ⟨he, bel⟩ => ?_
  subst he
  exact ⟨_, rfl, _, _, _, [], _, [], hW', trodAll_mk1 (shut_bool Try.underlying4 _), (trodAll_cons_mk (Below.trod laidOut (by kernel_rfl) (of_decide_eq_true (by kernel_rfl)) k0 bel lt0) (trodAll_cons_mk (Below.trod laidOut (by kernel_rfl) (of_decide_eq_true (by kernel_rfl)) k1 bel lt1) trodAll_mk0)), rfl, bel.frame _, fun h => by cases h⟩

theorem over : Rows.fnExactRulesSameRow.holds Try.pinned (OpenSpec.ofChange Rows.fnExactRulesSameSpec) :=
  OpenClaim.holds_of_wide 3 Try.f3 rfl rfl rfl rfl rfl rfl rfl ⟨rfl, rfl, rfl, rfl, rfl⟩ rfl rfl rfl rfl rfl (by kernel_rfl) Try.func3 (by kernel_rfl)
    (of_decide_eq_true (by kernel_rfl)) (by unfold Func.isWrapper; first | (rw [if_pos (by decide +kernel)]; kernel_rfl) | (rw [if_neg (by decide +kernel)]; exact ⟨rfl, rfl⟩))
    (fun os started H enc _ => lifted os started H enc)
end Go.Proofs.Ytkckeobapckejaa.fnExactRulesSame
namespace Go.Proofs.Ytkckeobapckejaa
theorem fnExactRulesSame_holds : Rows.FnExactRulesSameSaid := fnExactRulesSame.over
#print axioms fnExactRulesSame_holds
end Go.Proofs.Ytkckeobapckejaa

