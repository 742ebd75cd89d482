/- At every list of places the program's OccsOk answers as the specification's; the list reads afterwards as before. No condition. -/
import Derived.Test.YtgmglammengghaaOccs2
namespace Go.Proofs.Ytgmglammengghaa.fnExactOccsOk
open Go.ChangeShapes Go.WideShapes Go.ChangeAt Go.RowKit
set_option linter.unusedVariables false

set_option maxHeartbeats 400000 in
theorem walk (a : Option Addr) (cap : Nat) (l : List Occ) (w : World) (h : Occs w a l) (hf : ∀ o ∈ l, o.Wf) :
    Calls Try.prog 4 #[.slice a l.length cap] w fun e w' => e = .returned (.bool true) ∧ Below w.heap.size w w' := by
  have hlen := h.len
  by_cases hbig : occsSize l ≤ 1048576
  · have hif : szDown 1048576 (occsSize l) = 1048576 - (occsSize l : Int) := if_neg (by omega)
    have hge : ¬ (1048576 - (occsSize l : Int) < 0) := by omega
    go_enter Try.func4, Try.ntmps4
    go_wp2_with fail
    refine (szOccS_any _ _ l _ _ h (by omega) (by omega)).mono ?_
    rintro e w0 ⟨rfl, hb0⟩
    rw [hif]
    clear hif
    go_wp2_with fail
    refine (toOccS_any _ _ l _ (h.below hb0) hbig).mono ?_
    rintro e w1 ⟨L1, rfl, hL1, hr1, hb1⟩
    have hb01 := hb0.trans (hb1.mono hb0.size)
    have ho1 := hr1.occs
    rw [hL1] at ho1
    go_wp2_with fail
    refine (specOccsOk_any _ _ l _ ho1).mono ?_
    rintro e w2 ⟨rfl, hb2⟩
    have hb02 := hb01.trans (hb2.mono hb01.size)
    go_wp2_with fail
    refine (toOccS_any _ _ l _ (h.below hb02) hbig).mono ?_
    rintro e w3 ⟨L3, rfl, hL3, hr3, hb3⟩
    have hb03 := hb02.trans (hb3.mono hb02.size)
    have ho3 := hr3.occs
    rw [hL3] at ho3
    go_wp2_with fail
    refine (implOccsOk_any _ _ l _ ho3).mono ?_
    rintro e w4 ⟨rfl, hb4⟩
    have hb04 := hb03.trans (hb4.mono hb03.size)
    go_wp2_with fail
    refine (toOccS_any _ _ l _ (h.below hb04) hbig).mono ?_
    rintro e w5 ⟨L5, rfl, hL5, hr5, hb5⟩
    have hb05 := hb04.trans (hb5.mono hb04.size)
    have ho5 := hr5.occs
    rw [hL5] at ho5
    go_wp2_with fail
    refine (eqOccS_any _ _ _ _ l l _ (ho3.below (hb4.trans (hb5.mono hb4.size))) ho5).mono ?_
    rintro e w6 ⟨rfl, hb6⟩
    have hb06 := hb05.trans (hb6.mono hb05.size)
    have hself := occsEqB_self l
    go_wp2
    go_ret
    exact ⟨rfl, hb06⟩
  · have hif : szDown 1048576 (occsSize l) = -1 := if_pos (by omega)
    go_enter Try.func4, Try.ntmps4
    go_wp2_with fail
    refine (szOccS_any _ _ l _ _ h (by omega) (by omega)).mono ?_
    rintro e w0 ⟨rfl, hb0⟩
    rw [hif]
    clear hif
    go_wp2
    go_ret
    exact ⟨rfl, hb0⟩

set_option maxRecDepth 100000 in
theorem lifted (os : Os) (started : os.Started) (H : Type) (enc : TypeId × Value → H) :
    ReturnsInHanded {} Try.checked os 4 .any (Rows.fnExactOccsOkSpec.pre6 enc Try.prog Try.f4 Rows.fnExactOccsOkRow.domain false) (Rows.fnExactOccsOkSpec.post enc Try.prog Try.f4 false true false false) := by
  refine returnsInHanded_of_change (C := Try.checked) own started (by kernel_rfl) Try.func4
    (ChangeSpec.witness6 (enc := enc) (C := Try.checked) false ⟨#[], #[.slice none 0 0], []⟩ 8 (by kernel_rfl) (by kernel_rfl) (by kernel_rfl) (by kernel_rfl)) ?_
  intro W base args ds gs before hval0 hW hcnd _
  have hval : ∀ (j : Nat) t v, Try.f4.params[j]? = some t → args[j]? = some v → Value.okWide Try.prog W .any base t v := hval0
  have hW' := hW
  obtain ⟨p, q, hA0, hV, rfl, hfz, hnd⟩ := hW
  have hA : DataW.TrodAll enc Try.prog W 0 (fun _ => true) true Try.f4.params.toList args.toList ds p := hA0
  rw [Try.params4] at hA hval
  obtain ⟨v0, vs0, d0, ds0, p0, q0, hargs, rfl, rfl, h0, r0⟩ := trodAll_cons hA
  obtain ⟨rfl, rfl, rfl⟩ := trodAll_nil r0
  obtain rfl : args = #[v0] := by cases args; simp_all
  obtain ⟨rfl, rfl⟩ := trodVars_none hV
  have k0 := h0
  have lt0 : ∀ x ∈ p0, x.block < W.heap.size := by obtain ⟨m, hm⟩ := k0; exact DataW.trod_lt m _ _ _ hm
  obtain ⟨a0, cap0, l0, rfl, e0, f0⟩ := open_occs (hval 0 31 v0 rfl rfl) h0
  clear hA0 hval0
  refine (walk a0 cap0 l0 W e0 f0).mono fun e W' ⟨he, bel⟩ => ?_
  subst he
  exact ⟨_, rfl, _, _, _, [], _, [], hW', trodAll_mk1 (shut_bool Try.underlying4 _), (trodAll_cons_mk (Below.trod laidOut (by kernel_rfl) (of_decide_eq_true (by kernel_rfl)) k0 bel lt0) trodAll_mk0), rfl, bel.frame _, fun h => by cases h⟩

theorem over : Rows.fnExactOccsOkRow.holds Try.pinned (OpenSpec.ofChange Rows.fnExactOccsOkSpec) :=
  OpenClaim.holds_of_wide 4 Try.f4 rfl rfl rfl rfl rfl rfl rfl ⟨rfl, rfl, rfl, rfl, rfl⟩ rfl rfl rfl rfl rfl (by kernel_rfl) Try.func4 (by kernel_rfl)
    (of_decide_eq_true (by kernel_rfl)) (by unfold Func.isWrapper; first | (rw [if_pos (by decide +kernel)]; kernel_rfl) | (rw [if_neg (by decide +kernel)]; exact ⟨rfl, rfl⟩))
    (fun os started H enc _ => lifted os started H enc)
end Go.Proofs.Ytgmglammengghaa.fnExactOccsOk
namespace Go.Proofs.Ytgmglammengghaa
theorem fnExactOccsOk_holds : Rows.FnExactOccsOkSaid := fnExactOccsOk.over
#print axioms fnExactOccsOk_holds
end Go.Proofs.Ytgmglammengghaa

