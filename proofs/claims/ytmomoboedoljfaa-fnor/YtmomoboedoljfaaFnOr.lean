/- Whatever is drawn: what OrOf finds of two lists that are ok is all of both, each once, in order, whichever is first; of one list with itself that list; the program answers as the specification. -/
import Derived.Test.YtmomoboedoljfaaDraw10
import Derived.Test.YtmomoboedoljfaaOccAs
import Derived.Test.YtmomoboedoljfaaOr2
import Derived.Test.YtmomoboedoljfaaOccPut1
import Derived.Test.YtmomoboedoljfaaOccs3
namespace Go.Proofs.Ytmomoboedoljfaa.fnOr
open Go.ChangeShapes Go.WideShapes Go.ChangeAt Go.RowKit
set_option linter.unusedVariables false
set_option maxRecDepth 4000
theorem or_both {l m : List Occ} (h : occsOkB l = true) (h' : occsOkB m = true) (hl : l.length ≤ 7) (hm : m.length ≤ 7) : orF2 l m = (putAll l m, true) := by
  have hlen := putAll_len m l
  have hn : ¬ 40 < (putAll l m).length := by omega
  simp [orF2, h, h', toldF, hn]
theorem put_swap {l m : List Occ} (h : occsOkB l = true) (h' : occsOkB m = true) : putAll m l = putAll l m :=
  ascO_ext _ _ (asc_putAll l m (asc_ok h')) (asc_putAll m l (asc_ok h)) (fun z => by rw [mem_putAll, mem_putAll]; exact Or.comm)
theorem put_self {l : List Occ} (h : occsOkB l = true) : putAll l l = l :=
  ascO_ext _ _ (asc_putAll l l (asc_ok h)) (asc_ok h) (fun z => by rw [mem_putAll]; exact or_self_iff)
theorem put_ok {l m : List Occ} (h : occsOkB l = true) (h' : occsOkB m = true) (hl : l.length ≤ 7) (hm : m.length ≤ 7) : occsOkB (putAll l m) = true :=
  ok_of_asc (fun o ho => by
    rcases (mem_putAll m l o).1 ho with h1 | h1
    · exact ok_all h o h1
    · exact ok_all h' o h1) (asc_putAll m l (asc_ok h)) (by have := putAll_len m l; omega)
set_option maxHeartbeats 4000000 in
theorem walk (a0 : Option Addr) (cap0 : Nat) (c0 : List Int) (w : World) (h0 : Bytes w a0 c0 ∧ c0.length ≤ cap0) :
    Calls Try.prog 3 #[.slice a0 c0.length cap0] w fun e w' => e = .returned (.bool true) ∧ Below w.heap.size w w' := by
  have hm0 := h0.1.len
  unfold maxLen at hm0
  by_cases hbig : (1048576 : Int) < (c0.length : Int)
  · go_enter Try.func3, Try.ntmps3
    go_wp2
    go_ret
    exact ⟨rfl, Below.refl _ _⟩
  go_enter Try.func3, Try.ntmps3
  go_wp2_with fail
  refine (drawOrOf_any a0 cap0 c0 w h0.1 h0.2).mono ?_
  rintro e w1 ⟨a1, a2, c1, c2, l, m, rfl, hl7, hm7, hlc, hmc, hE1, hF1, _, _, hb1⟩
  obtain ⟨⟨R, ok⟩, hR⟩ : ∃ R, orF2 l m = R := ⟨_, rfl⟩
  have HR : Hid (orF2 l m = (R, ok)) := hR
  have hi := implOrOf_any a1 a2 c1 c2 l m w1 hE1 hF1 hlc hmc
  rw [hR] at hi
  clear hR
  go_wp2_with fail
  refine hi.mono ?_
  rintro e w2 ⟨v2, L2, rfl, hL2, hO2, hb2⟩
  obtain ⟨a3, c3, rfl⟩ := pOwns_slice hO2.row
  have hX2 := hO2.occs
  rw [hL2] at hX2
  have hl2 : L2.length = R.length := by rw [← hL2, List.length_map]
  rw [hl2]
  clear hl2 hO2 hL2 hi
  have hE2 := hE1.below hb2
  have hF2 := hF1.below hb2
  have b2 := hb1.trans (hb2.mono hb1.size)
  have hs := specOrOf_any a1 a2 c1 c2 l m w2 hE2 hF2
  rw [HR.out] at hs
  go_wp2_with fail
  refine hs.mono ?_
  rintro e w3 ⟨v3, L3, rfl, hL3, hO3, hb3⟩
  obtain ⟨a4, c4, rfl⟩ := pOwns_slice hO3.row
  have hY3 := hO3.occs
  rw [hL3] at hY3
  have hl3 : L3.length = R.length := by rw [← hL3, List.length_map]
  rw [hl3]
  clear hl3 hO3 hL3 hs
  have hE3 := hE2.below hb3
  have hF3 := hF2.below hb3
  have hX3 := hX2.below hb3
  have b3 := b2.trans (hb3.mono b2.size)
  have hkk : (ok != ok) = false := by cases ok <;> rfl
  have hself := occsEqB_self R
  have hsame := implOccsSame_any a3 a4 c3 c4 R R w3 hX3 hY3
  rw [hself] at hsame
  go_wp2_with fail
  refine hsame.mono ?_
  rintro e w4 ⟨rfl, hb4⟩
  have hE4 := hE3.below hb4
  have hF4 := hF3.below hb4
  have hX4 := hX3.below hb4
  have b4 := b3.trans (hb4.mono b3.size)
  clear hE1 hE2 hE3 hF1 hF2 hF3 hX2 hX3 hY3 hb1 hb2 hb3 hb4 b2 b3 hsame hself hkk
  by_cases hok : occsOkB l = true ∧ occsOkB m = true
  · obtain ⟨hokl, hokm⟩ := hok
    have hboth := or_both hokl hokm hl7 hm7
    have e1 := HR.out
    rw [hboth] at e1
    simp only [Prod.mk.injEq] at e1
    obtain ⟨rfl, rfl⟩ := e1
    have hback : orF2 m l = (putAll l m, true) := by rw [or_both hokm hokl hm7 hl7, put_swap hokl hokm]
    have hown : orF2 l l = (l, true) := by rw [or_both hokl hokl hl7 hl7, put_self hokl]
    have hokR := put_ok hokl hokm hl7 hm7
    have hmem : Hid (∀ o ∈ l, o ∈ putAll l m) := fun o ho => (mem_putAll m l o).2 (.inl ho)
    have hokM : Hid (∀ o ∈ l, o.Ok) := ok_all hokl
    have hRl := putAll_len m l
    have hiB := implOrOf_any a2 a1 c2 c1 m l w4 hF4 hE4 hmc hlc
    have hiS := fun (v : World) (hv : Below w4.heap.size w4 v) => implOrOf_any a1 a1 c1 c1 l l v (hE4.below hv) (hE4.below hv) hlc hlc
    rw [hback] at hiB
    rw [hown] at hiS
    generalize putAll l m = R at *
    have HokR : Hid (occsOkB R = true) := hokR
    clear hback hown hokR hokl hokm hboth
    go_wp2_with fail
    refine hiB.mono ?_
    rintro e w5 ⟨v5, L5, rfl, hL5, hO5, hb5⟩
    obtain ⟨a5, c5, rfl⟩ := pOwns_slice hO5.row
    have hP5 := hO5.occs
    rw [hL5] at hP5
    have hl5 : L5.length = R.length := by rw [← hL5, List.length_map]
    rw [hl5]
    clear hl5 hO5 hL5 hiB
    go_wp2_with fail
    refine (hiS w5 hb5).mono ?_
    rintro e w6 ⟨v6, L6, rfl, hL6, hO6, hb6'⟩
    obtain ⟨a6, c6, rfl⟩ := pOwns_slice hO6.row
    have hQ6 := hO6.occs
    rw [hL6] at hQ6
    have hl6 : L6.length = l.length := by rw [← hL6, List.length_map]
    rw [hl6]
    have hb6 := hb5.trans (hb6'.mono hb5.size)
    have hP6 := hP5.below hb6'
    clear hl6 hO6 hL6 hiS hP5
    have hE6 := hE4.below hb6
    have hX6 := hX4.below hb6
    have b6 := b4.trans (hb6.mono b4.size)
    obtain ⟨n, hn⟩ : ∃ n, l.length = n := ⟨_, rfl⟩
    have Hn : Hid (l.length = n) := hn
    obtain ⟨k, hk⟩ : ∃ k, R.length = k := ⟨_, rfl⟩
    have Hk : Hid (R.length = k) := hk
    obtain ⟨m', hm'⟩ : ∃ k, m.length = k := ⟨_, rfl⟩
    rw [hn, hk, hm']
    rw [hk, hn, hm'] at hRl
    rw [hn] at hl7
    rw [hm'] at hm7
    clear hn hk hm' hE4 hF4 hX4 hb5 hb6 hb6' b4
    go_wp2_with fail
    go_loopw [13] (fun vi wr => ∃ j : Nat, j ≤ n ∧ vi = .int .i64 j ∧ Occs wr a1 l ∧ Occs wr a3 R ∧ Occs wr a5 R ∧ Occs wr a6 l ∧ Below w.heap.size w wr) (fun vi _ => n - (intOf vi).toNat)
    case atStart => exact ⟨0, Nat.zero_le _, rfl, hE6, hX6, hP6, hQ6, b6⟩
    case round =>
      obtain ⟨j, hj, rfl, hE, hX, hP, hQ, hbr⟩ := hrel
      clear hE6 hX6 hP6 hQ6 b6
      by_cases hjn : j < n
      · have hjn' : (j : Int) < (n : Int) := by omega
        have hlj : j < l.length := by rw [Hn.out]; exact hjn
        obtain ⟨b, off, q, cq, rfl, hbl, x0, x1, x2, hI⟩ := hE.at hlj
        have hput : putsF R l[j] = R := by
          have h1 : occOkB l[j].fr l[j].tl l[j].ids = true := hokM.out _ (List.getElem_mem hlj)
          have h2 : putsF R l[j] = putF l[j] R := by simp [putsF, HokR.out, h1]
          have h3 := hmem.out _ (List.getElem_mem hlj)
          rw [h2]
          exact ascO_ext _ _ (asc_putF _ R (asc_ok HokR.out)) (asc_ok HokR.out) (fun z => by
            rw [mem_putF]
            exact ⟨fun e => e.elim id (fun e => e ▸ h3), .inl⟩)
        have hcall := implOccsPut_any a3 c3 R l[j] q cq wr hX hI
        rw [hput, Hk.out] at hcall
        generalize l[j] = o at *
        clear hput
        go_wp2_with fail
        refine hcall.mono ?_
        rintro e v1 ⟨vv, L, rfl, hL, hO, hv1⟩
        obtain ⟨a7, c7, rfl⟩ := pOwns_slice hO.row
        have hlL : L.length = k := by rw [← Hk.out, ← hL, List.length_map]
        rw [hlL]
        clear hlL hO hL hcall x0 x1 x2
        go_wp2
        exact ⟨⟨j + 1, by omega, by go_num, hE.below hv1, hX.below hv1, hP.below hv1, hQ.below hv1, hbr.trans (hv1.mono hbr.size)⟩, by simp [intOf]; omega⟩
      · have hneg : ¬ ((j : Int) < (n : Int)) := by omega
        have h1 := implOccsSame_any a5 a3 c5 c3 R R wr hP hX
        rw [occsEqB_self R, Hk.out] at h1
        have h2 := fun (v : World) (hv : Below wr.heap.size wr v) => implOccsSame_any a6 a1 c6 c1 l l v (hQ.below hv) (hE.below hv)
        rw [occsEqB_self l, Hn.out] at h2
        have h3 := fun (v : World) (hv : Below wr.heap.size wr v) => implOccsOk_any a3 c3 R v (hX.below hv)
        rw [HokR.out, Hk.out] at h3
        have hw : IntKind.i64.wrap ((n : Int) + (m' : Int)) = (n : Int) + (m' : Int) := by rw [IntKind.wrap_i64]; omega
        have hle : (k : Int) ≤ (n : Int) + (m' : Int) := by omega
        go_wp2_with fail
        refine h1.mono ?_
        rintro e v1 ⟨rfl, hv1⟩
        go_wp2_with fail
        refine (h2 v1 hv1).mono ?_
        rintro e v2 ⟨rfl, hv2'⟩
        have hv2 := hv1.trans (hv2'.mono hv1.size)
        go_wp2_with fail
        refine (h3 v2 hv2).mono ?_
        rintro e v3 ⟨rfl, hv3'⟩
        have hv3 := hv2.trans (hv3'.mono hv2.size)
        go_wp2
        go_ret
        exact ⟨rfl, hbr.trans (hv3.mono hbr.size)⟩
  · have e1 := HR.out
    have hz : orF2 l m = ([], false) := by
      unfold orF2
      rw [if_neg]
      intro h
      simp only [Bool.and_eq_true] at h
      exact hok h
    rw [hz] at e1
    simp only [Prod.mk.injEq] at e1
    obtain ⟨rfl, rfl⟩ := e1
    clear hz hok
    go_wp2
    go_ret
    exact ⟨rfl, b4⟩

set_option maxRecDepth 100000 in
theorem lifted (os : Os) (started : os.Started) (H : Type) (enc : TypeId × Value → H) :
    ReturnsInHanded {} Try.checked os 3 .any (Rows.fnOrSpec.pre6 enc Try.prog Try.f3 Rows.fnOrRow.domain false) (Rows.fnOrSpec.post enc Try.prog Try.f3 false true false false) := by
  refine returnsInHanded_of_change (C := Try.checked) own started (by kernel_rfl) Try.func3
    (ChangeSpec.witness6 (enc := enc) (C := Try.checked) false ⟨#[], #[.slice none 0 0], []⟩ 8 (by kernel_rfl) (by kernel_rfl) (by kernel_rfl) (by kernel_rfl)) ?_
  intro W base args ds gs before hval0 hW hcnd _
  have hval : ∀ (j : Nat) t v, Try.f3.params[j]? = some t → args[j]? = some v → Value.okWide Try.prog W .any base t v := hval0
  have hW' := hW
  obtain ⟨p, q, hA0, hV, rfl, hfz, hnd⟩ := hW
  have hA : DataW.TrodAll enc Try.prog W 0 (fun _ => true) true Try.f3.params.toList args.toList ds p := hA0
  rw [Try.params3] at hA hval
  obtain ⟨v0, vs0, d0, ds0, p0, q0, hargs, rfl, rfl, h0, r0⟩ := trodAll_cons hA
  obtain ⟨rfl, rfl, rfl⟩ := trodAll_nil r0
  obtain rfl : args = #[v0] := by cases args; simp_all
  obtain ⟨rfl, rfl⟩ := trodVars_none hV
  have k0 := h0
  have lt0 : ∀ x ∈ p0, x.block < W.heap.size := by obtain ⟨m, hm⟩ := k0; exact DataW.trod_lt m _ _ _ hm
  obtain ⟨a0, cap0, bs0, rfl, e0⟩ := open_bytes (hval 0 22 v0 rfl rfl) h0
  clear hA0 hval0
  refine (walk a0 cap0 bs0 W e0).mono fun e W' ⟨he, bel⟩ => ?_
  subst he
  exact ⟨_, rfl, _, _, _, [], _, [], hW', trodAll_mk1 (shut_bool Try.underlying4 _), (trodAll_cons_mk (Below.trod laidOut (by kernel_rfl) (of_decide_eq_true (by kernel_rfl)) k0 bel lt0) trodAll_mk0), rfl, bel.frame _, fun h => by cases h⟩

theorem over : Rows.fnOrRow.holds Try.pinned (OpenSpec.ofChange Rows.fnOrSpec) :=
  OpenClaim.holds_of_wide 3 Try.f3 rfl rfl rfl rfl rfl rfl rfl ⟨rfl, rfl, rfl, rfl, rfl⟩ rfl rfl rfl rfl rfl (by kernel_rfl) Try.func3 (by kernel_rfl)
    (of_decide_eq_true (by kernel_rfl)) (by unfold Func.isWrapper; first | (rw [if_pos (by decide +kernel)]; kernel_rfl) | (rw [if_neg (by decide +kernel)]; exact ⟨rfl, rfl⟩))
    (fun os started H enc _ => lifted os started H enc)
end Go.Proofs.Ytmomoboedoljfaa.fnOr
namespace Go.Proofs.Ytmomoboedoljfaa
theorem fnOr_holds : Rows.FnOrSaid := fnOr.over
#print axioms fnOr_holds
end Go.Proofs.Ytmomoboedoljfaa

