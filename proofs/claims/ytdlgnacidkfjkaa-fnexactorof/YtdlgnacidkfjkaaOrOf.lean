/- At every two lists of places the program's OrOf answers as the specification's, field by field; the lists read afterwards as before; the answer owns its memory. No condition. -/
import Derived.Test.YtdlgnacidkfjkaaOr2
import Derived.Test.YtdlgnacidkfjkaaOccMk
namespace Go.Proofs.Ytdlgnacidkfjkaa
open Go.ChangeShapes Go.WideShapes Go.ChangeAt Go.RowKit
set_option linter.unusedVariables false
set_option maxRecDepth 4000

theorem orF2_size (l m : List Occ) : occsSize (orF2 l m).1 ≤ 1048576 := by
  unfold orF2
  split
  · rename_i h
    simp only [Bool.and_eq_true] at h
    unfold toldF
    split
    · simp [occsSize, idsTotal]
    · have hok : ∀ o ∈ putAll l m, o.Ok := fun o ho => by
        rcases (mem_putAll _ _ _).1 ho with h1 | h1
        · exact ok_each h.1 o h1
        · exact ok_each h.2 o h1
      have := oks_size hok
      unfold occsSize
      simp only
      omega
  · simp [occsSize, idsTotal]
theorem ocPairs_map (L : List OC) : (ocPairs L).map (·.1) = L.map (·.o) := by simp [ocPairs]
/-- A list in memory of its own, as it is read. -/
theorem OwnL.reads {w : World} {B M : Nat} {a : Option Addr} {L : List (Occ × Nat)} {l : List Occ} (h : OwnL w B M a L) (e : L.map (·.1) = l) : Occs w a l := by
  have := h.occs
  rwa [e] at this
theorem kAll_bound {k : Int} {L : List (Occ × Nat)} (hk0 : 0 ≤ k) (hk : k ≤ 50000000) (hs : occsSize (L.map (·.1)) ≤ 1048576) : 0 ≤ kAll k L ∧ kAll k L ≤ k + 2097152 := by
  rw [kAll_sum]
  have h2 : occsSize (L.map (·.1)) = (L.map (·.1)).length + idsTotal (L.map (·.1)) := rfl
  simp only [List.length_map] at h2
  omega
end Go.Proofs.Ytdlgnacidkfjkaa
namespace Go.Proofs.Ytdlgnacidkfjkaa.fnExactOrOf
open Go.ChangeShapes Go.WideShapes Go.ChangeAt Go.RowKit
set_option linter.unusedVariables false
set_option maxRecDepth 4000

set_option maxHeartbeats 4000000 in
theorem walk (a : Option Addr) (cap : Nat) (l : List Occ) (a' : Option Addr) (cap' : Nat) (m : List Occ) (w : World) (h : Occs w a l) (hf : ∀ o ∈ l, o.Wf) (h' : Occs w a' m) (hf' : ∀ o ∈ m, o.Wf) :
    Calls Try.prog 3 #[.slice a l.length cap, .slice a' m.length cap'] w fun e w' => e = .returned (.bool true) ∧ Below w.heap.size w w' := by
  have hlen := h.len
  have hlen' := h'.len
  by_cases hbig : occsSize l ≤ 1048576
  · have hif : szDown 1048576 (occsSize l) = 1048576 - (occsSize l : Int) := if_neg (by omega)
    have hge : ¬ (1048576 - (occsSize l : Int) < 0) := by omega
    by_cases hbig' : occsSize l + occsSize m ≤ 1048576
    · have hif' : szDown (1048576 - occsSize l) (occsSize m) = 1048576 - (occsSize l : Int) - (occsSize m : Int) := if_neg (by omega)
      have hge' : ¬ (1048576 - (occsSize l : Int) - (occsSize m : Int) < 0) := by omega
      have hn2 : occsSize m ≤ 1048576 := by omega
      have hRs := orF2_size l m
      obtain ⟨R, hR⟩ : ∃ R, (orF2 l m).1 = R := ⟨_, rfl⟩
      obtain ⟨rb, hrb⟩ : ∃ rb, (orF2 l m).2 = rb := ⟨_, rfl⟩
      have hself := occsEqB_self R
      have hselfl := occsEqB_self l
      have hselfm := occsEqB_self m
      have hbb : (rb != rb) = false := by cases rb <;> rfl
      have hspec := specOrOf_any (l := l) (m := m)
      have himpl := implOrOf_any (l := l) (m := m)
      rw [hR, hrb] at hspec himpl
      rw [hR] at hRs
      clear hR hrb
      go_enter Try.func3, Try.ntmps3
      go_wp2_with fail
      refine (szOccS_any _ _ l _ _ h (by omega) (by omega)).mono ?_
      rintro e wz ⟨rfl, bz⟩
      rw [hif]
      clear hif
      go_wp2_with fail
      refine (szOccS_any _ _ m _ _ (h'.below bz) (by omega) (by omega)).mono ?_
      rintro e w0 ⟨rfl, by0⟩
      have b00 := bz.trans (by0.mono bz.size)
      rw [hif']
      clear hif'
      go_wp2_with fail
      refine (toOccS_any _ _ l _ (h.below b00) hbig).mono ?_
      rintro e w1 ⟨L1, rfl, hL1, hR1, hb1⟩
      have b01 := b00.trans (hb1.mono b00.size)
      go_wp2_with fail
      refine (toOccS_any _ _ m _ (h'.below b01) hn2).mono ?_
      rintro e w2 ⟨L2, rfl, hL2, hR2, hb2⟩
      have b02 := b01.trans (hb2.mono b01.size)
      go_wp2_with fail
      refine (hspec _ _ _ _ _ (((OwnL.of_row hR1).reads hL1).below hb2) ((OwnL.of_row hR2).reads hL2)).mono ?_
      rintro e w3 ⟨v3, L3, rfl, hL3, hO3, hb3⟩
      have b03 := b02.trans (hb3.mono b02.size)
      obtain ⟨aw, cw, rfl⟩ := pOwns_slice hO3.row
      have ow3 := OwnL.of_own hO3
      have n3 : L3.length = R.length := by rw [← hL3]; simp
      have m3 : (ocPairs L3).map (·.1) = R := by rw [ocPairs_map]; exact hL3
      rw [n3]
      clear hO3 n3 hR1 hL1 hR2 hL2
      go_wp2_with fail
      refine (toOccS_any _ _ l _ (h.below b03) hbig).mono ?_
      rintro e w4 ⟨L4, rfl, hL4, hR4, hb4⟩
      have b04 := b03.trans (hb4.mono b03.size)
      have ox4 := OwnL.of_row hR4
      have ow4 := ow3.below hb4
      go_wp2_with fail
      refine (toOccS_any _ _ m _ (h'.below b04) hn2).mono ?_
      rintro e w5 ⟨L5, rfl, hL5, hR5, hb5⟩
      have b05 := b04.trans (hb5.mono b04.size)
      have oy5 := OwnL.of_row hR5
      have ox5 := ox4.below hb5
      have ow5 := ow4.below hb5
      clear hR4 hR5 ow3 ow4 ox4
      go_wp2_with fail
      refine (himpl _ _ _ _ _ (ox5.reads hL4) (oy5.reads hL5) (Nat.le_refl _) (Nat.le_refl _)).mono ?_
      rintro e w6 ⟨v6, L6, rfl, hL6, hO6, hb6⟩
      have b06 := b05.trans (hb6.mono b05.size)
      obtain ⟨ag, cg, rfl⟩ := pOwns_slice hO6.row
      have og6 := OwnL.of_own hO6
      have n6 : L6.length = R.length := by rw [← hL6]; simp
      have m6 : (ocPairs L6).map (·.1) = R := by rw [ocPairs_map]; exact hL6
      rw [n6]
      have oy6 := oy5.below hb6
      have ox6 := ox5.below hb6
      have ow6 := ow5.below hb6
      have N6 : Hid (L6.length = R.length) := n6
      clear hO6 oy5 ox5 ow5 n6
      have s3 := hb3.size
      have s4 := hb4.size
      have s5 := hb5.size
      have s6 := hb6.size
      go_wp2_with fail
      refine (eqOccS_any _ _ _ _ R R _ (og6.reads m6) (ow6.reads m3)).mono ?_
      rintro e w7 ⟨rfl, hb7⟩
      have b07 := b06.trans (hb7.mono b06.size)
      go_wp2_with fail
      refine (toOccS_any _ _ l _ (h.below b07) hbig).mono ?_
      rintro e w8 ⟨L8, rfl, hL8, hR8, hb8⟩
      have b08 := b07.trans (hb8.mono b07.size)
      have b68 := hb7.trans (hb8.mono hb7.size)
      go_wp2_with fail
      refine (eqOccS_any _ _ _ _ l l _ ((ox6.below b68).reads hL4) ((OwnL.of_row hR8).reads hL8)).mono ?_
      rintro e w9 ⟨rfl, hb9⟩
      have b09 := b08.trans (hb9.mono b08.size)
      have b69 := b68.trans (hb9.mono b68.size)
      clear hR8 hL8
      go_wp2_with fail
      refine (toOccS_any _ _ m _ (h'.below b09) hn2).mono ?_
      rintro e w10 ⟨L10, rfl, hL10, hR10, hb10⟩
      have b010 := b09.trans (hb10.mono b09.size)
      have b610 := b69.trans (hb10.mono b69.size)
      go_wp2_with fail
      refine (eqOccS_any _ _ _ _ m m _ ((oy6.below b610).reads hL5) ((OwnL.of_row hR10).reads hL10)).mono ?_
      rintro e w11 ⟨rfl, hb11⟩
      have b011 := b010.trans (hb11.mono b010.size)
      have b611 := b610.trans (hb11.mono b610.size)
      clear hR10 hL10
      have ow11 := ow6.below b611
      have ox11 := ox6.below b611
      have oy11 := oy6.below b611
      have og11 := og6.below b611
      have s11 := b611.size
      have n4 : l.length = L4.length := by rw [← hL4]; simp
      have n5 : m.length = L5.length := by rw [← hL5]; simp
      have N4 : Hid (l.length = L4.length) := n4
      have N5 : Hid (m.length = L5.length) := n5
      clear n4 n5 ow6 ox6 oy6 og6
      go_wp2_with fail
      refine (markOccS_any _ _ _ _ _ L4 1 _ ox11 N4.out (by rw [hL4]; exact hbig) (by omega) (by omega)).mono ?_
      rintro e w12 ⟨rfl, _, hW12⟩
      obtain ⟨k0, k1⟩ := kAll_bound (k := 1) (L := L4) (by omega) (by omega) (by rw [hL4]; exact hbig)
      have ow12 := ow11.within hW12 (by omega)
      have oy12 := oy11.within hW12 (by omega)
      have og12 := og11.within hW12 (by omega)
      have s12 := hW12.size
      have b012 : Below w.heap.size w w12 := b011.trans (hW12.below b03.size (by have := b011.size; omega))
      obtain ⟨kx, hkx⟩ : ∃ kx, kAll 1 L4 = kx := ⟨_, rfl⟩
      rw [hkx] at k0 k1 ⊢
      clear hkx ow11 oy11 og11 ox11
      go_wp2_with fail
      refine (markOccS_any _ _ _ _ _ L5 kx _ oy12 N5.out (by rw [hL5]; exact hn2) k0 (by omega)).mono ?_
      rintro e w13 ⟨rfl, _, hW13⟩
      obtain ⟨j0, j1⟩ := kAll_bound (k := kx) (L := L5) k0 (by omega) (by rw [hL5]; exact hn2)
      have ow13 := ow12.within hW13 (by omega)
      have og13 := og12.within hW13 (by omega)
      have s13 := hW13.size
      have b013 : Below w.heap.size w w13 := b012.trans (hW13.below b04.size (by have := b012.size; omega))
      obtain ⟨ky, hky⟩ : ∃ ky, kAll kx L5 = ky := ⟨_, rfl⟩
      rw [hky] at j0 j1 ⊢
      clear hky ow12 oy12 og12
      have hky0 : ¬ (ky < 0) := by omega
      go_wp2_with fail
      refine (eqOccS_any _ _ _ _ R R _ (og13.reads m6) (ow13.reads m3)).mono ?_
      rintro e w14 ⟨rfl, hb14⟩
      have b014 := b013.trans (hb14.mono b013.size)
      have ow14 := ow13.below hb14
      have og14 := og13.below hb14
      have s14 := hb14.size
      have N6' : Hid (R.length = (ocPairs L6).length) := by show _ = _; rw [← N6.out]; simp [ocPairs]
      clear ow13 og13
      go_wp2_with fail
      refine (markOccS_any _ _ _ _ _ (ocPairs L6) 1 _ og14 N6'.out (by rw [m6]; exact hRs) (by omega) (by omega)).mono ?_
      rintro e w15 ⟨rfl, og15, hW15⟩
      have ow15 := ow14.within hW15 (by omega)
      have b015 : Below w.heap.size w w15 := b014.trans (hW15.below b05.size (by have := b014.size; omega))
      obtain ⟨i0, i1⟩ := kAll_bound (k := 1) (L := ocPairs L6) (by omega) (by omega) (by rw [m6]; exact hRs)
      obtain ⟨kg, hkg⟩ : ∃ kg, kAll 1 (ocPairs L6) = kg := ⟨_, rfl⟩
      have Hkg : Hid (kAll 1 (ocPairs L6) = kg) := hkg
      rw [hkg] at i0 i1 ⊢
      clear hkg ow14 og14
      have hkg0 : ¬ (kg < 0) := by omega
      have hkgn : (kg != kg) = false := by simp
      go_wp2_with fail
      refine (heldOccS_any _ _ _ (ocPairs L6) 1 _ og15.occs N6'.out (by rw [m6]; exact hRs) (by omega) (by omega)).mono ?_
      rintro e w16 ⟨rfl, hb16⟩
      rw [Hkg.out]
      have b016 := b015.trans (hb16.mono b015.size)
      go_wp2_with fail
      refine (toOccS_any _ _ l _ (h.below b016) hbig).mono ?_
      rintro e w17 ⟨L17, rfl, hL17, hR17, hb17⟩
      have b017 := b016.trans (hb17.mono b016.size)
      go_wp2_with fail
      refine (toOccS_any _ _ m _ (h'.below b017) hn2).mono ?_
      rintro e w18 ⟨L18, rfl, hL18, hR18, hb18⟩
      have b018 := b017.trans (hb18.mono b017.size)
      go_wp2_with fail
      refine (himpl _ _ _ _ _ (((OwnL.of_row hR17).reads hL17).below hb18) ((OwnL.of_row hR18).reads hL18) (Nat.le_refl _) (Nat.le_refl _)).mono ?_
      rintro e w19 ⟨v19, L19, rfl, hL19, hO19, hb19⟩
      have b019 := b018.trans (hb19.mono b018.size)
      obtain ⟨ah, ch, rfl⟩ := pOwns_slice hO19.row
      have oh19 := OwnL.of_own hO19
      have n19 : L19.length = R.length := by rw [← hL19]; simp
      have m19 : (ocPairs L19).map (·.1) = R := by rw [ocPairs_map]; exact hL19
      rw [n19]
      clear hO19 n19 hR17 hR18
      have b1519 := (hb16.trans (hb17.mono hb16.size))
      have b1519 := b1519.trans (hb18.mono b1519.size)
      have b1519 := b1519.trans (hb19.mono b1519.size)
      go_wp2_with fail
      refine (eqOccS_any _ _ _ _ R R _ (oh19.reads m19) ((ow15.below b1519).reads m3)).mono ?_
      rintro e w20 ⟨rfl, hb20⟩
      have b020 := b019.trans (hb20.mono b019.size)
      have b1520 := b1519.trans (hb20.mono b1519.size)
      go_wp2_with fail
      refine (heldOccS_any _ _ _ (ocPairs L6) 1 _ (og15.below b1520).occs N6'.out (by rw [m6]; exact hRs) (by omega) (by omega)).mono ?_
      rintro e w21 ⟨rfl, hb21⟩
      rw [Hkg.out]
      go_wp2
      go_ret
      exact ⟨rfl, b020.trans (hb21.mono b020.size)⟩
    · have hif' : szDown (1048576 - occsSize l) (occsSize m) = -1 := if_pos (by omega)
      go_enter Try.func3, Try.ntmps3
      go_wp2_with fail
      refine (szOccS_any _ _ l _ _ h (by omega) (by omega)).mono ?_
      rintro e wz ⟨rfl, bz⟩
      rw [hif]
      clear hif
      go_wp2_with fail
      refine (szOccS_any _ _ m _ _ (h'.below bz) (by omega) (by omega)).mono ?_
      rintro e w0 ⟨rfl, by0⟩
      have b00 := bz.trans (by0.mono bz.size)
      rw [hif']
      clear hif'
      go_wp2
      go_ret
      exact ⟨rfl, b00⟩
  · have hif : szDown 1048576 (occsSize l) = -1 := if_pos (by omega)
    go_enter Try.func3, Try.ntmps3
    go_wp2_with fail
    refine (szOccS_any _ _ l _ _ h (by omega) (by omega)).mono ?_
    rintro e wz ⟨rfl, bz⟩
    rw [hif]
    clear hif
    go_wp2
    go_ret
    exact ⟨rfl, bz⟩

set_option maxRecDepth 100000 in
theorem lifted (os : Os) (started : os.Started) (H : Type) (enc : TypeId × Value → H) :
    ReturnsInHanded {} Try.checked os 3 .any (Rows.fnExactOrOfSpec.pre6 enc Try.prog Try.f3 Rows.fnExactOrOfRow.domain false) (Rows.fnExactOrOfSpec.post enc Try.prog Try.f3 false true false false) := by
  refine returnsInHanded_of_change (C := Try.checked) own started (by kernel_rfl) Try.func3
    (ChangeSpec.witness6 (enc := enc) (C := Try.checked) false ⟨#[], #[.slice none 0 0, .slice none 0 0], []⟩ 8 (by kernel_rfl) (by kernel_rfl) (by kernel_rfl) (by kernel_rfl)) ?_
  intro W base args ds gs before hval0 hW hcnd _
  have hval : ∀ (j : Nat) t v, Try.f3.params[j]? = some t → args[j]? = some v → Value.okWide Try.prog W .any base t v := hval0
  have hW' := hW
  obtain ⟨p, q, hA0, hV, rfl, hfz, hnd⟩ := hW
  have hA : DataW.TrodAll enc Try.prog W 0 (fun _ => true) true Try.f3.params.toList args.toList ds p := hA0
  rw [Try.params3] at hA hval
  obtain ⟨v0, vs0, d0, ds0, p0, q0, hargs, rfl, rfl, h0, r0⟩ := trodAll_cons hA
  obtain ⟨v1, vs1, d1, ds1, p1, q1, rfl, rfl, rfl, h1, r1⟩ := trodAll_cons r0
  obtain ⟨rfl, rfl, rfl⟩ := trodAll_nil r1
  obtain rfl : args = #[v0, v1] := by cases args; simp_all
  obtain ⟨rfl, rfl⟩ := trodVars_none hV
  have k0 := h0
  have lt0 : ∀ x ∈ p0, x.block < W.heap.size := by obtain ⟨m, hm⟩ := k0; exact DataW.trod_lt m _ _ _ hm
  have k1 := h1
  have lt1 : ∀ x ∈ p1, x.block < W.heap.size := by obtain ⟨m, hm⟩ := k1; exact DataW.trod_lt m _ _ _ hm
  obtain ⟨a0, cap0, l0, rfl, e0, f0⟩ := open_occs (hval 0 22 v0 rfl rfl) h0
  obtain ⟨a1, cap1, l1, rfl, e1, f1⟩ := open_occs (hval 1 22 v1 rfl rfl) h1
  clear hA0 hval0
  refine (walk a0 cap0 l0 a1 cap1 l1 W e0 f0 e1 f1).mono fun e W' ⟨he, bel⟩ => ?_
  subst he
  exact ⟨_, rfl, _, _, _, [], _, [], hW', trodAll_mk1 (shut_bool Try.underlying4 _), (trodAll_cons_mk (Below.trod laidOut (by kernel_rfl) (of_decide_eq_true (by kernel_rfl)) k0 bel lt0) (trodAll_cons_mk (Below.trod laidOut (by kernel_rfl) (of_decide_eq_true (by kernel_rfl)) k1 bel lt1) trodAll_mk0)), rfl, bel.frame _, fun h => by cases h⟩

theorem over : Rows.fnExactOrOfRow.holds Try.pinned (OpenSpec.ofChange Rows.fnExactOrOfSpec) :=
  OpenClaim.holds_of_wide 3 Try.f3 rfl rfl rfl rfl rfl rfl rfl ⟨rfl, rfl, rfl, rfl, rfl⟩ rfl rfl rfl rfl rfl (by kernel_rfl) Try.func3 (by kernel_rfl)
    (of_decide_eq_true (by kernel_rfl)) (by unfold Func.isWrapper; first | (rw [if_pos (by decide +kernel)]; kernel_rfl) | (rw [if_neg (by decide +kernel)]; exact ⟨rfl, rfl⟩))
    (fun os started H enc _ => lifted os started H enc)
end Go.Proofs.Ytdlgnacidkfjkaa.fnExactOrOf
namespace Go.Proofs.Ytdlgnacidkfjkaa
theorem fnExactOrOf_holds : Rows.FnExactOrOfSaid := fnExactOrOf.over
#print axioms fnExactOrOf_holds
end Go.Proofs.Ytdlgnacidkfjkaa

