/- At every list of events and every time the program's EvsTill answers as the specification's, in memory of its own; the list reads afterwards as before. No condition. -/
import Derived.Test.YtfdpdahomdakdaaEvs4
import Derived.Test.YtfdpdahomdakdaaEvsOpen
namespace Go.Proofs.Ytfdpdahomdakdaa.fnExactEvsTill
open Go.ChangeShapes Go.WideShapes Go.ChangeAt Go.RowKit
set_option linter.unusedVariables false

theorem sz_yes {l n : Int} (h : ¬ l - n < 0) : (if l - n < 0 then (-1 : Int) else l - n) = l - n := if_neg h
theorem sz_no {l n : Int} (h : l - n < 0) : (if l - n < 0 then (-1 : Int) else l - n) = -1 := if_pos h

set_option maxHeartbeats 1000000 in
theorem walk (a : Option Addr) (cap : Nat) (l : List Ev) (t : Int) (w : World) (h : Evs w a l) (ht : (Lit.int .i64 t).wf = true) :
    Calls Try.prog 6 #[.slice a l.length cap, .int .i64 t] w fun e w' => e = .returned (.bool true) ∧ Below w.heap.size w w' := by
  clear ht
  have hlen := h.len
  by_cases hbig : l.length ≤ 1048576
  · have hif := sz_yes (l := 1048576) (n := l.length) (by omega)
    have htl := till_le l t
    go_enter Try.func6, Try.ntmps6
    go_wp2_with fail
    refine (szEvS_any _ _ _ _ _ hlen (by omega) (by omega)).mono ?_
    rintro e w' ⟨rfl, rfl⟩
    rw [hif]
    clear hif
    go_wp2_with fail
    refine (toEvS_any _ _ l _ h hbig).mono ?_
    rintro e w1 ⟨rfl, hr1, hb1⟩
    go_wp2_with fail
    refine (specEvsTill_any _ _ l t _ (hr1.evs hlen) hbig).mono ?_
    rintro e w2 ⟨v, rfl, ho2, hb2⟩
    obtain ⟨aw, cw, rfl, ow⟩ := evOwn_of ho2
    clear ho2
    have b02 := hb1.trans (hb2.mono hb1.size)
    have ew := ow.evs
    have lw := ew.lt
    go_wp2_with fail
    refine (toEvS_any _ _ l _ (h.below b02) hbig).mono ?_
    rintro e w3 ⟨rfl, hr3, hb3⟩
    have b03 := b02.trans (hb3.mono b02.size)
    have ox := EvOwn.of_row hr3 hlen
    have ew3 := ew.below hb3
    go_wp2_with fail
    refine (implEvsTill_any _ _ l t _ (hr3.evs hlen) hbig).mono ?_
    rintro e w4 ⟨v, rfl, ho4, hb4⟩
    obtain ⟨ag, cg, rfl, og⟩ := evOwn_of ho4
    clear ho4
    have b04 := b03.trans (hb4.mono b03.size)
    have ew4 := ew3.below hb4
    have ox4 := ox.below hb4
    have hself := evsEqB_self (till l t)
    have hself' := evsEqB_self l
    go_wp2_with fail
    refine (eqEvS_any _ _ _ _ _ _ _ og.evs ew4).mono ?_
    rintro e w5 ⟨rfl, hb5⟩
    have b05 := b04.trans (hb5.mono b04.size)
    have ew5 := ew4.below hb5
    have ox5 := ox4.below hb5
    have og5 := og.below hb5
    go_wp2_with fail
    refine (toEvS_any _ _ l _ (h.below b05) hbig).mono ?_
    rintro e w6 ⟨rfl, hr6, hb6⟩
    have b06 := b05.trans (hb6.mono b05.size)
    go_wp2_with fail
    refine (eqEvS_any _ _ _ _ l l _ (ox5.evs.below hb6) (hr6.evs hlen)).mono ?_
    rintro e w7 ⟨rfl, hb7⟩
    have b57 := hb6.trans (hb7.mono hb6.size)
    have b07 := b06.trans (hb7.mono b06.size)
    have ew7 := ew5.below b57
    have ox7 := ox5.below b57
    have og7 := og5.below b57
    clear ew3 ew4 ew5 ox4 ox5 og og5 hr1 hr6 ow ew
    go_wp2_with fail
    refine (markEvS_any _ _ _ l _ _ ox7 hbig (by omega) (by omega)).mono ?_
    rintro e w8 ⟨rfl, ox8, hg8⟩
    have hs2 := b02.size
    have hs3 := hb3.size
    have hs7 : w2.heap.size ≤ w7.heap.size := by have := hb3.size; have := hb4.size; have := hb5.size; have := b57.size; omega
    have b78 : Below w2.heap.size w7 w8 := mark_below ox7 hg8 (Nat.le_refl _) hs7
    have ew8 := ew7.lower lw b78
    have b08 := b07.trans (b78.mono hs2)
    have og8 := og7.only hg8 (fun x hx e => by
      have h1 := og7.ge x hx
      simp at e
      have h2 := hr3.lt
      omega)
    have hk8 : (0 : Int) ≤ 1 + 3 * (l.length : Int) := by omega
    clear ox8 ox7 hr3 ox
    go_wp2_with fail
    refine (eqEvS_any _ _ _ _ _ _ _ og8.evs ew8).mono ?_
    rintro e w9 ⟨rfl, hb9⟩
    have b09 := b08.trans (hb9.mono b08.size)
    have ew9 := ew8.below hb9
    have og9 := og8.below hb9
    have hs8 := b78.size
    have hs9 := hb9.size
    clear ew7 ew8 og7 og8
    go_wp2_with fail
    refine (markEvS_any _ _ _ _ _ _ og9 (by omega) (by omega) (by omega)).mono ?_
    rintro e w10 ⟨rfl, og10, hg10⟩
    have b910 : Below w2.heap.size w9 w10 := mark_below og9 hg10 hs3 (by omega)
    have ew10 := ew9.lower lw b910
    have b010 := b09.trans (b910.mono hs2)
    go_wp2_with fail
    refine (heldEvS_any _ _ (till l t).length _ _ og10.evs (by omega) (by omega) (by omega)).mono ?_
    rintro e w' ⟨rfl, rfl⟩
    have hq0 : (0 : Int) ≤ 1 + 3 * ((till l t).length : Int) := by omega
    go_wp2_with fail
    refine (toEvS_any _ _ l _ (h.below b010) hbig).mono ?_
    rintro e w11 ⟨rfl, hr11, hb11⟩
    have b011 := b010.trans (hb11.mono b010.size)
    go_wp2_with fail
    refine (implEvsTill_any _ _ l t _ (hr11.evs hlen) hbig).mono ?_
    rintro e w12 ⟨v, rfl, ho12, hb12⟩
    obtain ⟨ah, ch, rfl, oh⟩ := evOwn_of ho12
    clear ho12
    have b012 := b011.trans (hb12.mono b011.size)
    have b1012 := hb11.trans (hb12.mono hb11.size)
    go_wp2_with fail
    refine (eqEvS_any _ _ _ _ _ _ _ oh.evs (ew10.below b1012)).mono ?_
    rintro e w13 ⟨rfl, hb13⟩
    have b013 := b012.trans (hb13.mono b012.size)
    have b1013 := b1012.trans (hb13.mono b1012.size)
    go_wp2_with fail
    refine (heldEvS_any _ _ (till l t).length _ _ (og10.evs.below b1013) (by omega) (by omega) (by omega)).mono ?_
    rintro e w' ⟨rfl, rfl⟩
    go_wp2
    go_ret
    exact ⟨rfl, b013⟩
  · have hif := sz_no (l := 1048576) (n := l.length) (by omega)
    go_enter Try.func6, Try.ntmps6
    go_wp2_with fail
    refine (szEvS_any _ _ _ _ _ hlen (by omega) (by omega)).mono ?_
    rintro e w' ⟨rfl, rfl⟩
    rw [hif]
    clear hif
    go_wp2
    go_ret
    exact ⟨rfl, Below.refl _ _⟩

set_option maxRecDepth 100000 in
theorem lifted (os : Os) (started : os.Started) (H : Type) (enc : TypeId × Value → H) :
    ReturnsInHanded {} Try.checked os 6 .any (Rows.fnExactEvsTillSpec.pre6 enc Try.prog Try.f6 Rows.fnExactEvsTillRow.domain false) (Rows.fnExactEvsTillSpec.post enc Try.prog Try.f6 false true false false) := by
  refine returnsInHanded_of_change (C := Try.checked) own started (by kernel_rfl) Try.func6
    (ChangeSpec.witness6 (enc := enc) (C := Try.checked) false ⟨#[], #[.slice none 0 0, .int .i64 0], []⟩ 8 (by kernel_rfl) (by kernel_rfl) (by kernel_rfl) (by kernel_rfl)) ?_
  intro W base args ds gs before hval0 hW hcnd _
  have hval : ∀ (j : Nat) t v, Try.f6.params[j]? = some t → args[j]? = some v → Value.okWide Try.prog W .any base t v := hval0
  have hW' := hW
  obtain ⟨p, q, hA0, hV, rfl, hfz, hnd⟩ := hW
  have hA : DataW.TrodAll enc Try.prog W 0 (fun _ => true) true Try.f6.params.toList args.toList ds p := hA0
  rw [Try.params6] at hA hval
  obtain ⟨v0, vs0, d0, ds0, p0, q0, hargs, rfl, rfl, h0, r0⟩ := trodAll_cons hA
  obtain ⟨v1, vs1, d1, ds1, p1, q1, rfl, rfl, rfl, h1, r1⟩ := trodAll_cons r0
  obtain ⟨rfl, rfl, rfl⟩ := trodAll_nil r1
  obtain rfl : args = #[v0, v1] := by cases args; simp_all
  obtain ⟨rfl, rfl⟩ := trodVars_none hV
  have k0 := h0
  have lt0 : ∀ x ∈ p0, x.block < W.heap.size := by obtain ⟨m, hm⟩ := k0; exact DataW.trod_lt m _ _ _ hm
  have k1 := h1
  have lt1 : ∀ x ∈ p1, x.block < W.heap.size := by obtain ⟨m, hm⟩ := k1; exact DataW.trod_lt m _ _ _ hm
  obtain ⟨a0, cap0, l0, rfl, e0⟩ := open_evs (hval 0 28 v0 rfl rfl) h0
  obtain ⟨n1, rfl, _, _, wf1⟩ := open_int Try.underlying3 (hval 1 3 v1 rfl rfl) h1
  clear hA0 hval0
  refine (walk a0 cap0 l0 n1 W e0 wf1).mono fun e W' ⟨he, bel⟩ => ?_
  subst he
  exact ⟨_, rfl, _, _, _, [], _, [], hW', trodAll_mk1 (shut_bool Try.underlying4 _), (trodAll_cons_mk (Below.trod laidOut (by kernel_rfl) (of_decide_eq_true (by kernel_rfl)) k0 bel lt0) (trodAll_cons_mk (Below.trod laidOut (by kernel_rfl) (of_decide_eq_true (by kernel_rfl)) k1 bel lt1) trodAll_mk0)), rfl, bel.frame _, fun h => by cases h⟩

theorem over : Rows.fnExactEvsTillRow.holds Try.pinned (OpenSpec.ofChange Rows.fnExactEvsTillSpec) :=
  OpenClaim.holds_of_wide 6 Try.f6 rfl rfl rfl rfl rfl rfl rfl ⟨rfl, rfl, rfl, rfl, rfl⟩ rfl rfl rfl rfl rfl (by kernel_rfl) Try.func6 (by kernel_rfl)
    (of_decide_eq_true (by kernel_rfl)) (by unfold Func.isWrapper; first | (rw [if_pos (by decide +kernel)]; kernel_rfl) | (rw [if_neg (by decide +kernel)]; exact ⟨rfl, rfl⟩))
    (fun os started H enc _ => lifted os started H enc)
end Go.Proofs.Ytfdpdahomdakdaa.fnExactEvsTill
namespace Go.Proofs.Ytfdpdahomdakdaa
theorem fnExactEvsTill_holds : Rows.FnExactEvsTillSaid := fnExactEvsTill.over
#print axioms fnExactEvsTill_holds
end Go.Proofs.Ytfdpdahomdakdaa

