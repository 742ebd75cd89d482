/- Whatever is drawn: what PlusOf finds is each of the list, so much later, that is in time, and nothing else; so much and so much more later is both later; the program answers as the specification. -/
import Derived.Test.YtmomoboedoljfaaDraw11
import Derived.Test.YtmomoboedoljfaaPlus5
import Derived.Test.YtmomoboedoljfaaOccs3
namespace Go.Proofs.Ytmomoboedoljfaa.fnPlus
open Go.ChangeShapes Go.WideShapes Go.ChangeAt Go.RowKit
set_option linter.unusedVariables false
set_option maxRecDepth 4000
theorem plus_twice {n k t : Int} (hk : 0 ≤ k) (l : List Occ) : plusF k t (plusF n t l) = plusF (n + k) t l := by
  unfold plusF
  rw [List.filter_map, List.map_map, List.filter_filter]
  have e1 : (laterO k ∘ laterO n) = laterO (n + k) := by
    funext o
    show (⟨o.fr, o.tl + n + k, o.ids⟩ : Occ) = ⟨o.fr, o.tl + (n + k), o.ids⟩
    rw [Int.add_assoc]
  rw [e1]
  congr 1
  apply List.filter_congr
  intro o _
  show (decide (o.tl + n + k ≤ t) && decide (o.tl + n + k ≤ 2000) && (decide (o.tl + n ≤ t) && decide (o.tl + n ≤ 2000))) = (decide (o.tl + (n + k) ≤ t) && decide (o.tl + (n + k) ≤ 2000))
  rw [Bool.eq_iff_iff]
  simp only [Bool.and_eq_true, decide_eq_true_eq]
  omega
theorem plus_count {n t : Int} {l : List Occ} {j : Nat} (h : j < l.length) : (plusF n t (l.take (j + 1))).length = (plusF n t (l.take j)).length + (if inTime n t l[j] then 1 else 0) := by
  unfold plusF
  rw [List.take_succ_eq_append_getElem h, List.filter_append, List.map_append, List.length_append]
  congr 1
  cases hi : inTime n t l[j] <;> simp [hi]
theorem plusF_ok {n t : Int} {l : List Occ} (h : occsOkB l = true) (hn : 0 ≤ n) : occsOkB (plusF n t l) = true :=
  ok_of_asc (plus_ok (ok_all h) hn) (asc_plus (asc_ok h)) (Nat.le_trans (plus_len n t l) (ok_len h))
set_option maxHeartbeats 4000000 in
theorem walk (a0 : Option Addr) (cap0 : Nat) (c0 : List Int) (w : World) (h0 : Bytes w a0 c0 ∧ c0.length ≤ cap0) :
    Calls Try.prog 4 #[.slice a0 c0.length cap0] w fun e w' => e = .returned (.bool true) ∧ Below w.heap.size w w' := by
  have hm0 := h0.1.len
  unfold maxLen at hm0
  by_cases hbig : (1048576 : Int) < (c0.length : Int)
  · go_enter Try.func4, Try.ntmps4
    go_wp2
    go_ret
    exact ⟨rfl, Below.refl _ _⟩
  go_enter Try.func4, Try.ntmps4
  go_wp2_with fail
  refine (drawPlusOf_any a0 cap0 c0 w h0.1 h0.2).mono ?_
  rintro e w1 ⟨a1, c1, l, n, t, rfl, hl7, hE1, hn0, hn1, ht0, ht1, hb1⟩
  obtain ⟨⟨R, ok⟩, hR⟩ : ∃ R, plusR l n t = R := ⟨_, rfl⟩
  have HR : Hid (plusR l n t = (R, ok)) := hR
  have hi := implPlusOf_any a1 c1 l n t w1 hE1 (by omega) (by omega) (by omega) (by omega)
  rw [hR] at hi
  clear hR
  go_wp2_with fail
  refine hi.mono ?_
  rintro e w2 ⟨v2, L2, rfl, hL2, hO2, hb2⟩
  obtain ⟨a3, c3, rfl⟩ := pOwns_slice hO2.row
  have hX2 := hO2.occs
  rw [hL2] at hX2
  have hl2 : L2.length = R.length := by rw [← hL2, List.length_map]
  rw [hl2]
  clear hl2 hO2 hL2 hi
  have hE2 := hE1.below hb2
  have b2 := hb1.trans (hb2.mono hb1.size)
  have hs := specPlusOf_any a1 c1 l n t w2 hE2 (by omega) (by omega) (by omega) (by omega)
  rw [HR.out] at hs
  go_wp2_with fail
  refine hs.mono ?_
  rintro e w3 ⟨v3, L3, rfl, hL3, hO3, hb3⟩
  obtain ⟨a4, c4, rfl⟩ := pOwns_slice hO3.row
  have hY3 := hO3.occs
  rw [hL3] at hY3
  have hl3 : L3.length = R.length := by rw [← hL3, List.length_map]
  rw [hl3]
  clear hl3 hO3 hL3 hs
  have hE3 := hE2.below hb3
  have hX3 := hX2.below hb3
  have b3 := b2.trans (hb3.mono b2.size)
  have hkk : (ok != ok) = false := by cases ok <;> rfl
  have hself := occsEqB_self R
  have hsame := implOccsSame_any a3 a4 c3 c4 R R w3 hX3 hY3
  rw [hself] at hsame
  go_wp2_with fail
  refine hsame.mono ?_
  rintro e w4 ⟨rfl, hb4⟩
  have hE4 := hE3.below hb4
  have hX4 := hX3.below hb4
  have b4 := b3.trans (hb4.mono b3.size)
  clear hE1 hE2 hE3 hX2 hX3 hY3 hb1 hb2 hb3 hb4 b2 b3 hsame hself hkk
  by_cases hok : (occsOkB l && (decide (1 ≤ n) && decide (n ≤ 20))) = true
  · have e1 := HR.out
    unfold plusR at e1
    rw [if_pos hok] at e1
    simp only [Prod.mk.injEq] at e1
    obtain ⟨hRe, rfl⟩ := e1
    simp only [Bool.and_eq_true, decide_eq_true_eq] at hok
    obtain ⟨hokl, hlo, hhi⟩ := hok
    have HRe : Hid (plusF n t l = R) := hRe
    have Hokl : Hid (occsOkB l = true) := hokl
    have hokR : occsOkB R = true := by rw [← hRe]; exact plusF_ok hokl (by omega)
    have HokR : Hid (occsOkB R = true) := hokR
    have hz3 : plusR R 3 t = (plusF (n + 3) t l, true) := by
      unfold plusR
      rw [if_pos (by simp [hokR])]
      rw [← hRe, plus_twice (by omega)]
    have hW : plusR l (n + 3) t = (if n + 3 ≤ 20 then plusF (n + 3) t l else [], decide (n + 3 ≤ 20)) := by
      unfold plusR
      by_cases h20 : n + 3 ≤ 20
      · rw [if_pos (by simp [hokl, h20]; omega), if_pos h20, decide_eq_true h20]
      · rw [if_neg (by simp [hokl]; omega), if_neg h20, decide_eq_false h20]
    have HW : Hid (plusR l (n + 3) t = (if n + 3 ≤ 20 then plusF (n + 3) t l else [], decide (n + 3 ≤ 20))) := hW
    have Hz3 : Hid (plusR R 3 t = (plusF (n + 3) t l, true)) := hz3
    have hRl : R.length ≤ 7 := by rw [← hRe]; exact Nat.le_trans (plus_len n t l) hl7
    obtain ⟨k, hk⟩ : ∃ k, R.length = k := ⟨_, rfl⟩
    have Hk : Hid (R.length = k) := hk
    obtain ⟨m, hm⟩ : ∃ m, l.length = m := ⟨_, rfl⟩
    have Hm : Hid (l.length = m) := hm
    rw [hk, hm]
    rw [hk] at hRl
    rw [hm] at hl7
    clear hk hm hz3 hW hokR hokl hRe
    go_wp2_with fail
    go_loopw [10] (fun vi wr => ∃ j : Nat, j ≤ k ∧ vi = .int .i64 j ∧ Occs wr a1 l ∧ Occs wr a3 R ∧ Below w.heap.size w wr) (fun vi _ => k - (intOf vi).toNat)
    case atStart => exact ⟨0, Nat.zero_le _, rfl, hE4, hX4, b4⟩
    case round =>
      obtain ⟨j, hj, rfl, hE, hX, hbr⟩ := hrel
      clear hE4 hX4 b4
      by_cases hjk : j < k
      · have hjk' : (j : Int) < (k : Int) := by omega
        have hlj : j < R.length := by rw [Hk.out]; exact hjk
        obtain ⟨b, off, q, cq, rfl, hbl, x0, x1, x2, hI⟩ := hX.at hlj
        obtain ⟨z, hz, hzin, hze⟩ : ∃ z ∈ l, inTime n t z = true ∧ laterO n z = R[j] := by
          have hmem : R[j] ∈ plusF n t l := by rw [HRe.out]; exact List.getElem_mem hlj
          obtain ⟨z, hz, e⟩ := List.mem_map.1 hmem
          obtain ⟨h1, h2⟩ := List.mem_filter.1 hz
          exact ⟨z, h1, h2, e⟩
        rw [← hze] at x0 x1 x2 hI
        have hokz : z.Ok := ok_all Hokl.out z hz
        have hput : putsF l z = l := by
          have h1 : occOkB z.fr z.tl z.ids = true := hokz
          have h2 : putsF l z = putF z l := by simp [putsF, Hokl.out, h1]
          rw [h2]
          exact ascO_ext _ _ (asc_putF _ l (asc_ok Hokl.out)) (asc_ok Hokl.out) (fun y => by
            rw [mem_putF]
            exact ⟨fun e => e.elim id (fun e => e ▸ hz), .inl⟩)
        have hzb : 1 ≤ z.tl ∧ z.tl ≤ 2000 := by
          have b : occOkB z.fr z.tl z.ids = true := hokz
          simp only [occOkB, Bool.and_eq_true, decide_eq_true_eq] at b
          omega
        have hlate : z.tl + n ≤ t := by
          simp only [inTime, Bool.and_eq_true, decide_eq_true_eq] at hzin
          exact hzin.1
        have y0 : wr.cell? ⟨b, off + j * 3, none⟩ = some (.int .i64 z.fr) := x0
        have y1 : wr.cell? ⟨b, off + j * 3 + 1, none⟩ = some (.int .i64 (z.tl + n)) := x1
        have y2 : wr.cell? ⟨b, off + j * 3 + 2, none⟩ = some (.slice q z.ids.length cq) := x2
        have hIz : Ints wr q z.ids := hI
        have hsub : z.tl + n - n = z.tl := by omega
        have hws : IntKind.i64.wrap z.tl = z.tl := by rw [IntKind.wrap_i64]; omega
        have hbx := oBelow_new wr (.cells #[.int .i64 z.fr, .int .i64 z.tl, .slice q z.ids.length cq] 32)
        have y1' := (hbx.cell (p := ⟨b, off + j * 3 + 1, none⟩) hbl).trans y1
        have hcall := implOccsPut_any a1 c1 l z q cq _ (hE.below hbx) (hIz.below hbx)
        rw [hput, Hm.out] at hcall
        clear x0 x1 x2 hI hze hzin hput hokz
        go_wp2_with fail
        refine hcall.mono ?_
        rintro e v1 ⟨vv, L, rfl, hL, hO, hv1'⟩
        obtain ⟨a7, c7, rfl⟩ := pOwns_slice hO.row
        have hlL : L.length = m := by rw [← Hm.out, ← hL, List.length_map]
        rw [hlL]
        have hv1 := hbx.trans (hv1'.mono hbx.size)
        clear hlL hO hL hcall y0 y1 y2 y1'
        go_wp2
        exact ⟨⟨j + 1, by omega, by go_num, hE.below hv1, hX.below hv1, hbr.trans (hv1.mono hbr.size)⟩, by simp [intOf]; omega⟩
      · have hneg : ¬ ((j : Int) < (k : Int)) := by omega
        go_wp2_with fail
        obtain ⟨wo, rfl⟩ : ∃ wo, wo = wr := ⟨_, rfl⟩
        go_loopw [12, 13] (fun vc vi wr => ∃ (i q : Nat), i ≤ m ∧ vi = .int .i64 i ∧ vc = .int .i64 q ∧ Hid (q = (plusF n t (l.take i)).length) ∧ q ≤ i ∧ Occs wr a1 l ∧ Occs wr a3 R ∧ Below w.heap.size w wr) (fun _ vi _ => m - (intOf vi).toNat)
        case atStart => exact ⟨0, 0, Nat.zero_le _, rfl, rfl, by simp [Hid, plusF], Nat.le_refl _, hE, hX, hbr⟩
        case round =>
          clear hE hX hbr hneg hj
          obtain ⟨i, q, hi, rfl, rfl, hq, hqi, hE, hX, hbr⟩ := hrel
          by_cases him : i < m
          · have him' : (i : Int) < (m : Int) := by omega
            have hli : i < l.length := by rw [Hm.out]; exact him
            obtain ⟨b, off, p, cp, rfl, hbl, x0, x1, x2, hI⟩ := hE.at hli
            have hcount := plus_count (n := n) (t := t) hli
            have hok : l[i].Ok := ok_all Hokl.out _ (List.getElem_mem hli)
            have hzb : 1 ≤ l[i].tl ∧ l[i].tl ≤ 2000 := by
              have b : occOkB l[i].fr l[i].tl l[i].ids = true := hok
              simp only [occOkB, Bool.and_eq_true, decide_eq_true_eq] at b
              omega
            have hin : inTime n t l[i] = (decide (l[i].tl + n ≤ t) && decide (l[i].tl + n ≤ 2000)) := rfl
            rw [hin, ← hq.out] at hcount
            generalize l[i] = o at *
            have hwo : IntKind.i64.wrap (o.tl + n) = o.tl + n := by rw [IntKind.wrap_i64]; omega
            have Hcount : Hid _ := hcount
            clear hcount hin hok hq
            by_cases h1 : o.tl + n ≤ t
            · by_cases h2 : o.tl + n ≤ 2000
              · have e1 : Hid (q + 1 = (plusF n t (l.take (i + 1))).length) := by
                  show _ = _
                  rw [Hcount.out]
                  simp [h1, h2]
                clear Hcount
                go_wp2
                exact ⟨⟨i + 1, q + 1, by omega, by go_num, by go_num, e1, by omega, hE, hX, hbr⟩, by simp [intOf]; omega⟩
              · exact absurd (show o.tl + n ≤ 2000 by omega) h2
            · have e1 : Hid (q = (plusF n t (l.take (i + 1))).length) := by
                show _ = _
                rw [Hcount.out]
                simp [h1]
              clear Hcount
              go_wp2
              exact ⟨⟨i + 1, q, by omega, by go_num, rfl, e1, by omega, hE, hX, hbr⟩, by simp [intOf]; omega⟩
          · have hneg : ¬ ((i : Int) < (m : Int)) := by omega
            have hqk : q = k := by
              rw [hq.out, List.take_of_length_le (by rw [Hm.out]; omega), HRe.out, Hk.out]
            subst hqk
            have hz := implPlusOf_any a3 c3 R 3 t wr hX (by omega) (by omega) (by omega) (by omega)
            rw [Hz3.out, Hk.out] at hz
            have hw := fun (v : World) (hv : Below wr.heap.size wr v) => implPlusOf_any a1 c1 l (n + 3) t v (hE.below hv) (by omega) (by omega) (by omega) (by omega)
            rw [HW.out, Hm.out] at hw
            have hw3 : IntKind.i64.wrap (n + 3) = n + 3 := by rw [IntKind.wrap_i64]; omega
            have hfin := fun (v : World) (hv : Below wr.heap.size wr v) => implOccsOk_any a3 c3 R v (hX.below hv)
            rw [HokR.out, Hk.out] at hfin
            go_wp2_with fail
            refine hz.mono ?_
            rintro e v1 ⟨u1, L1, rfl, hL1, hO1, hv1⟩
            obtain ⟨a5, c5, rfl⟩ := pOwns_slice hO1.row
            have hZ1 := hO1.occs
            rw [hL1] at hZ1
            have hl1 : L1.length = (plusF (n + 3) t l).length := by rw [← hL1, List.length_map]
            rw [hl1]
            clear hl1 hO1 hL1 hz
            go_wp2_with fail
            refine (hw v1 hv1).mono ?_
            rintro e v2 ⟨u2, L2, rfl, hL2, hO2, hv2'⟩
            obtain ⟨a6, c6, rfl⟩ := pOwns_slice hO2.row
            have hv2 := hv1.trans (hv2'.mono hv1.size)
            by_cases h20 : n + 3 ≤ 20
            · rw [if_pos h20] at hL2
              rw [decide_eq_true h20]
              have hQ := hO2.occs
              rw [hL2] at hQ
              have hl2 : L2.length = (plusF (n + 3) t l).length := by rw [← hL2, List.length_map]
              rw [hl2]
              have hsame := implOccsSame_any a5 a6 c5 c6 _ _ v2 (hZ1.below hv2') hQ
              rw [occsEqB_self] at hsame
              clear hl2 hO2 hL2
              go_wp2_with fail
              refine hsame.mono ?_
              rintro e v3 ⟨rfl, hv3'⟩
              have hv3 := hv2.trans (hv3'.mono hv2.size)
              go_wp2_with fail
              refine (hfin v3 hv3).mono ?_
              rintro e v4 ⟨rfl, hv4'⟩
              have hv4 := hv3.trans (hv4'.mono hv3.size)
              go_wp2
              go_ret
              exact ⟨rfl, hbr.trans (hv4.mono hbr.size)⟩
            · rw [decide_eq_false h20]
              clear hO2 hL2
              go_wp2_with fail
              refine (hfin v2 hv2).mono ?_
              rintro e v4 ⟨rfl, hv4'⟩
              have hv4 := hv2.trans (hv4'.mono hv2.size)
              go_wp2
              go_ret
              exact ⟨rfl, hbr.trans (hv4.mono hbr.size)⟩
  · have e1 := HR.out
    unfold plusR at e1
    rw [if_neg hok] at e1
    simp only [Prod.mk.injEq] at e1
    obtain ⟨rfl, rfl⟩ := e1
    clear hok
    go_wp2
    go_ret
    exact ⟨rfl, b4⟩

set_option maxRecDepth 100000 in
theorem lifted (os : Os) (started : os.Started) (H : Type) (enc : TypeId × Value → H) :
    ReturnsInHanded {} Try.checked os 4 .any (Rows.fnPlusSpec.pre6 enc Try.prog Try.f4 Rows.fnPlusRow.domain false) (Rows.fnPlusSpec.post enc Try.prog Try.f4 false true false false) := by
  refine returnsInHanded_of_change (C := Try.checked) own started (by kernel_rfl) Try.func4
    (ChangeSpec.witness6 (enc := enc) (C := Try.checked) false ⟨#[], #[.slice none 0 0], []⟩ 8 (by kernel_rfl) (by kernel_rfl) (by kernel_rfl) (by kernel_rfl)) ?_
  intro W base args ds gs before hval0 hW hcnd _
  have hval : ∀ (j : Nat) t v, Try.f4.params[j]? = some t → args[j]? = some v → Value.okWide Try.prog W .any base t v := hval0
  have hW' := hW
  obtain ⟨p, q, hA0, hV, rfl, hfz, hnd⟩ := hW
  have hA : DataW.TrodAll enc Try.prog W 0 (fun _ => true) true Try.f4.params.toList args.toList ds p := hA0
  rw [Try.params4] at hA hval
  obtain ⟨v0, vs0, d0, ds0, p0, q0, hargs, rfl, rfl, h0, r0⟩ := trodAll_cons hA
  obtain ⟨rfl, rfl, rfl⟩ := trodAll_nil r0
  obtain rfl : args = #[v0] := by cases args; simp_all
  obtain ⟨rfl, rfl⟩ := trodVars_none hV
  have k0 := h0
  have lt0 : ∀ x ∈ p0, x.block < W.heap.size := by obtain ⟨m, hm⟩ := k0; exact DataW.trod_lt m _ _ _ hm
  obtain ⟨a0, cap0, bs0, rfl, e0⟩ := open_bytes (hval 0 22 v0 rfl rfl) h0
  clear hA0 hval0
  refine (walk a0 cap0 bs0 W e0).mono fun e W' ⟨he, bel⟩ => ?_
  subst he
  exact ⟨_, rfl, _, _, _, [], _, [], hW', trodAll_mk1 (shut_bool Try.underlying4 _), (trodAll_cons_mk (Below.trod laidOut (by kernel_rfl) (of_decide_eq_true (by kernel_rfl)) k0 bel lt0) trodAll_mk0), rfl, bel.frame _, fun h => by cases h⟩

theorem over : Rows.fnPlusRow.holds Try.pinned (OpenSpec.ofChange Rows.fnPlusSpec) :=
  OpenClaim.holds_of_wide 4 Try.f4 rfl rfl rfl rfl rfl rfl rfl ⟨rfl, rfl, rfl, rfl, rfl⟩ rfl rfl rfl rfl rfl (by kernel_rfl) Try.func4 (by kernel_rfl)
    (of_decide_eq_true (by kernel_rfl)) (by unfold Func.isWrapper; first | (rw [if_pos (by decide +kernel)]; kernel_rfl) | (rw [if_neg (by decide +kernel)]; exact ⟨rfl, rfl⟩))
    (fun os started H enc _ => lifted os started H enc)
end Go.Proofs.Ytmomoboedoljfaa.fnPlus
namespace Go.Proofs.Ytmomoboedoljfaa
theorem fnPlus_holds : Rows.FnPlusSaid := fnPlus.over
#print axioms fnPlus_holds
end Go.Proofs.Ytmomoboedoljfaa

