/- At every list of places and every place the program's OccsPut answers as the specification's, field by field; both read afterwards as before; the answer owns its memory. No condition. -/
import Derived.Test.YthgjmkmellhlmaaOccPut1
import Derived.Test.YthgjmkmellhlmaaOccMk
namespace Go.Proofs.Ythgjmkmellhlmaa
open Go.ChangeShapes Go.WideShapes Go.ChangeAt Go.RowKit
set_option linter.unusedVariables false
set_option maxRecDepth 4000

theorem putsF_size (l : List Occ) (o : Occ) : occsSize (putsF l o) ≤ 1048576 := by
  unfold putsF
  split
  · rename_i h
    simp only [Bool.and_eq_true] at h
    have hok : ∀ x ∈ putF o l, x.Ok := fun x hx => by
      rcases (mem_putF _ _ _).1 hx with h1 | rfl
      · exact ok_each h.1 x h1
      · exact h.2
    have h1 := oks_size hok
    have h2 := putF_len o l
    have h3 := ok_len h.1
    unfold occsSize
    omega
  · simp [occsSize, idsTotal]
theorem ocPairs_map (L : List OC) : (ocPairs L).map (·.1) = L.map (·.o) := by simp [ocPairs]
theorem OwnL.reads {w : World} {B M : Nat} {a : Option Addr} {L : List (Occ × Nat)} {l : List Occ} (h : OwnL w B M a L) (e : L.map (·.1) = l) : Occs w a l := by
  have := h.occs
  rwa [e] at this
theorem kAll_bound {k : Int} {L : List (Occ × Nat)} (hk0 : 0 ≤ k) (hk : k ≤ 50000000) (hs : occsSize (L.map (·.1)) ≤ 1048576) : 0 ≤ kAll k L ∧ kAll k L ≤ k + 2097152 := by
  rw [kAll_sum]
  have h2 : occsSize (L.map (·.1)) = (L.map (·.1)).length + idsTotal (L.map (·.1)) := rfl
  simp only [List.length_map] at h2
  omega
theorem Within.of_grown {w w' : World} {c : Nat} (h : w.grownBy w' (some c)) : Within c (c + 1) w w' :=
  ⟨h.os, h.tape, h.output, h.size, fun i hs hi => h.block i hs (fun e => by cases e; omega)⟩
theorem Box3.within {w w' : World} {A B M : Nat} {v0 v1 v2 : Value} (h : Box3 w A v0 v1 v2) (hw : Within B M w w') (hd : A < B ∨ M ≤ A) : Box3 w' A v0 v1 v2 := by
  have hl := h.lt
  obtain ⟨t, f, h⟩ := h
  exact ⟨t, f, (hw.block A hl hd).trans h⟩

set_option maxHeartbeats 400000 in
theorem markOcc_one (B : Nat) (f t : Int) (a : Option Addr) (cap : Nat) (l : List Int) (k : Int) (w : World) (h : IntOwn w B a l) (hn : l.length ≤ 1048576) (hk0 : 0 ≤ k) (hk1 : k ≤ 100000000) :
    Calls Try.prog 13 #[.agg #[.int .i64 f, .int .i64 t, .slice a l.length cap], .int .i64 k] w
      fun e w' => e = .returned (.int .i64 (k + l.length)) ∧ IntOwn w' B a (iMarks k l.length) ∧ w.grownBy w' (a.map (·.block)) := by
  have hb0 := oBelow_new w (.cells #[.int .i64 f, .int .i64 t, .slice a l.length cap] 31)
  go_enter Try.func13, Try.ntmps13
  go_wp2_with fail
  refine (markIntS_any B a cap l k _ (h.below hb0) hn hk0 (by omega)).mono ?_
  rintro e w1 ⟨rfl, hM, hg⟩
  go_wp2
  go_ret
  refine ⟨rfl, hM, ?_⟩
  exact grownBy_trans (World.grownBy_alloc w _ _) hg
end Go.Proofs.Ythgjmkmellhlmaa
namespace Go.Proofs.Ythgjmkmellhlmaa.fnExactOccsPut
open Go.ChangeShapes Go.WideShapes Go.ChangeAt Go.RowKit
set_option linter.unusedVariables false
set_option maxRecDepth 4000

set_option maxHeartbeats 4000000 in
theorem walk (a : Option Addr) (cap : Nat) (l : List Occ) (p : Option Addr) (cp : Nat) (o : Occ) (w : World) (h : Occs w a l) (hf : ∀ x ∈ l, x.Wf) (ho : Ints w p o.ids) (hfo : o.Wf) :
    Calls Try.prog 3 #[.slice a l.length cap, .agg #[.int .i64 o.fr, .int .i64 o.tl, .slice p o.ids.length cp]] w fun e w' => e = .returned (.bool true) ∧ Below w.heap.size w w' := by
  have hlen := h.len
  have hleno := ho.len
  have hA0 := box3_new w (.int .i64 o.fr) (.int .i64 o.tl) (.slice p o.ids.length cp) 25
  have b00 := oBelow_new w (.cells #[.int .i64 o.fr, .int .i64 o.tl, .slice p o.ids.length cp] 25)
  obtain ⟨w0, hw0⟩ : ∃ w0, w.alloc (.cells #[.int .i64 o.fr, .int .i64 o.tl, .slice p o.ids.length cp] 25) = w0 := ⟨_, rfl⟩
  rw [hw0] at hA0 b00
  by_cases hbig : occsSize l ≤ 1048576
  · have hif : szDown 1048576 (occsSize l) = 1048576 - (occsSize l : Int) := if_neg (by omega)
    have hge : ¬ (1048576 - (occsSize l : Int) < 0) := by omega
    by_cases hbig' : occsSize l + o.ids.length ≤ 1048576
    · have hif' : szDown (1048576 - occsSize l) o.ids.length = 1048576 - (occsSize l : Int) - (o.ids.length : Int) := if_neg (by omega)
      have hge' : ¬ (1048576 - (occsSize l : Int) - (o.ids.length : Int) < 0) := by omega
      have hn2 : o.ids.length ≤ 1048576 := by omega
      have hRs := putsF_size l o
      obtain ⟨R, hR⟩ : ∃ R, putsF l o = R := ⟨_, rfl⟩
      have hself := occsEqB_self R
      have hselfl := occsEqB_self l
      have hselfo := occEqB_self o.fr o.tl o.ids
      have hspec := specOccsPut_any (l := l) (o := o)
      have himpl := implOccsPut_any (l := l) (o := o)
      rw [hR] at hspec himpl hRs
      clear hR
      go_enter Try.func3, Try.ntmps3
      go_wp2_with fail
      refine (szOccS_any _ _ l _ _ (h.below b00) (by omega) (by omega)).mono ?_
      rintro e w1 ⟨rfl, hb1⟩
      rw [hif]
      clear hif
      have b01 := b00.trans (hb1.mono b00.size)
      have hA1 := hA0.below hb1
      obtain ⟨x0, x1, x2⟩ := hA1.cells
      go_wp2_with fail
      refine (szOcc_any o.fr o.tl p o.ids.length cp _ _ hleno (by omega) (by omega)).mono ?_
      rintro e w2 ⟨rfl, hb2⟩
      rw [hif']
      clear hif' x0 x1 x2
      have b02 := b01.trans (hb2.mono b01.size)
      have hA2 := hA1.below hb2
      have hA2d : Box3 w2.drew w.heap.size (.int .i64 o.fr) (.int .i64 o.tl) (.slice p o.ids.length cp) := hA2
      have b02d := b02.drew
      obtain ⟨x0, x1, x2⟩ := hA2.cells
      go_wp2_with fail
      go_region_held (fun v => v.cell? ⟨w.heap.size, 0, none⟩ = some (.int .i64 o.fr) ∧ v.cell? ⟨w.heap.size, 1, none⟩ = some (.int .i64 o.tl) ∧ v.cell? ⟨w.heap.size, 2, none⟩ = some (.slice p o.ids.length cp)) (go_keep)
        (first
        | (go_at_call 7; refine (toOccS_any _ _ l _ (h.below b02d) hbig).mono ?_; rintro e w3 ⟨L3, rfl, hL3, hR3, hb3⟩; obtain ⟨r0, r1, r2⟩ := (hA2d.below hb3).cells; have b03 := b02d.trans (hb3.mono b02d.size))
        | (go_at_call 8; refine (toOcc_any o.fr o.tl p cp o.ids _ (ho.below b03) hn2).mono ?_; rintro e w4 ⟨c4, rfl, hr4, hg4, hl4, hb4⟩; obtain ⟨r0, r1, r2⟩ := ((hA2d.below hb3).below hb4).cells; have b04 := b03.trans (hb4.mono b03.size))
        | (go_at_call 6; refine (hspec _ _ _ _ _ (((OwnL.of_row hR3).reads hL3).below hb4) (hr4.ints hleno)).mono ?_; rintro e w5 ⟨v5, L5, rfl, hL5, hO5, hb5⟩; obtain ⟨r0, r1, r2⟩ := (((hA2d.below hb3).below hb4).below hb5).cells; have b05 := b04.trans (hb5.mono b04.size)))
      have hA5 := ((hA2d.below hb3).below hb4).below hb5
      obtain ⟨aw, cw, rfl⟩ := pOwns_slice hO5.row
      have ow5 := OwnL.of_own hO5
      have n5 : L5.length = R.length := by rw [← hL5]; simp
      have m5 : (ocPairs L5).map (·.1) = R := by rw [ocPairs_map]; exact hL5
      rw [n5]
      clear hO5 n5 hR3 hL3 x0 x1 x2 r0 r1 r2 hr4
      go_wp2_with fail
      refine (toOccS_any _ _ l _ (h.below b05) hbig).mono ?_
      rintro e w6 ⟨L6, rfl, hL6, hR6, hb6⟩
      have b06 := b05.trans (hb6.mono b05.size)
      have ox6 := OwnL.of_row hR6
      have ow6 := ow5.below hb6
      have hA6 := hA5.below hb6
      obtain ⟨x0, x1, x2⟩ := hA6.cells
      go_wp2_with fail
      refine (toOcc_any o.fr o.tl p cp o.ids _ (ho.below b06) hn2).mono ?_
      rintro e w7 ⟨c7, rfl, hr7, hg7, hl7, hb7⟩
      have b07 := b06.trans (hb7.mono b06.size)
      clear x0 x1 x2 hR6
      obtain ⟨w8, hw8⟩ : ∃ w8, w7.alloc (.cells #[.int .i64 o.fr, .int .i64 o.tl, .slice (some ⟨c7, 0, none⟩) o.ids.length o.ids.length] 31) = w8 := ⟨_, rfl⟩
      have hX8 := box3_new w7 (.int .i64 o.fr) (.int .i64 o.tl) (.slice (some ⟨c7, 0, none⟩) o.ids.length o.ids.length) 31
      have hb8 := oBelow_new w7 (.cells #[.int .i64 o.fr, .int .i64 o.tl, .slice (some ⟨c7, 0, none⟩) o.ids.length o.ids.length] 31)
      have hsz8 : (w7.alloc (.cells #[.int .i64 o.fr, .int .i64 o.tl, .slice (some ⟨c7, 0, none⟩) o.ids.length o.ids.length] 31)).heap.size = w7.heap.size + 1 := by simp
      rw [hw8] at hX8 hb8 hsz8
      have b08 := b07.trans (hb8.mono b07.size)
      have b68 := hb7.trans (hb8.mono hb7.size)
      have ox8 := ox6.below b68
      have ow8 := ow6.below b68
      have hA8 := hA6.below b68
      have hr8 := hr7.of_block (hb8.block c7 hl7)
      obtain ⟨x0, x1, x2⟩ := hX8.cells
      clear ox6 ow5 ow6 hr7
      go_wp2_with fail
      refine (himpl _ _ _ _ _ (ox8.reads hL6) (hr8.ints hleno)).mono ?_
      rintro e w9 ⟨v9, L9, rfl, hL9, hO9, hb9⟩
      have b09 := b08.trans (hb9.mono b08.size)
      obtain ⟨ag, cg, rfl⟩ := pOwns_slice hO9.row
      have og9 := OwnL.of_own hO9
      have n9 : L9.length = R.length := by rw [← hL9]; simp
      have m9 : (ocPairs L9).map (·.1) = R := by rw [ocPairs_map]; exact hL9
      rw [n9]
      have N9 : Hid (R.length = (ocPairs L9).length) := by show _ = _; rw [← n9]; simp [ocPairs]
      have ox9 := ox8.below hb9
      have ow9 := ow8.below hb9
      have hA9 := hA8.below hb9
      have hX9 := hX8.below hb9
      clear hO9 n9 x0 x1 x2 hw8 ox8 ow8
      have s5 := b05.size
      have s6 := hb6.size
      have s9 := hb9.size
      have hAl := hA2.lt
      have s25 : w2.heap.size ≤ w5.heap.size := by have h1 := hb3.size; have h2 := hb4.size; have h3 := hb5.size; have h4 : w2.drew.heap.size = w2.heap.size := rfl; omega
      go_wp2_with fail
      refine (eqOccS_any _ _ _ _ R R _ (og9.reads m9) (ow9.reads m5)).mono ?_
      rintro e w10 ⟨rfl, hb10⟩
      have b010 := b09.trans (hb10.mono b09.size)
      go_wp2_with fail
      refine (toOccS_any _ _ l _ (h.below b010) hbig).mono ?_
      rintro e w11 ⟨L11, rfl, hL11, hR11, hb11⟩
      have b011 := b010.trans (hb11.mono b010.size)
      have b911 := hb10.trans (hb11.mono hb10.size)
      go_wp2_with fail
      refine (eqOccS_any _ _ _ _ l l _ ((ox9.below b911).reads hL6) ((OwnL.of_row hR11).reads hL11)).mono ?_
      rintro e w12 ⟨rfl, hb12⟩
      have b012 := b011.trans (hb12.mono b011.size)
      have b912 := b911.trans (hb12.mono b911.size)
      have hA12 := hA9.below b912
      have hX12 := hX9.below b912
      have hA12d : Box3 w12.drew w.heap.size (.int .i64 o.fr) (.int .i64 o.tl) (.slice p o.ids.length cp) := hA12
      have hX12d : Box3 w12.drew w7.heap.size (.int .i64 o.fr) (.int .i64 o.tl) (.slice (some ⟨c7, 0, none⟩) o.ids.length o.ids.length) := hX12
      have b012d := b012.drew
      have b912d := b912.drew
      have i12 := (hr8.ints hleno).below (hb9.trans (b912d.mono hb9.size))
      obtain ⟨x0, x1, x2⟩ := hA12.cells
      obtain ⟨y0, y1, y2⟩ := hX12.cells
      clear hR11 hL11
      go_wp2_with fail
      go_region_held (fun v => (v.cell? ⟨w.heap.size, 0, none⟩ = some (.int .i64 o.fr) ∧ v.cell? ⟨w.heap.size, 1, none⟩ = some (.int .i64 o.tl) ∧ v.cell? ⟨w.heap.size, 2, none⟩ = some (.slice p o.ids.length cp)) ∧
          (v.cell? ⟨w7.heap.size, 0, none⟩ = some (.int .i64 o.fr) ∧ v.cell? ⟨w7.heap.size, 1, none⟩ = some (.int .i64 o.tl) ∧ v.cell? ⟨w7.heap.size, 2, none⟩ = some (.slice (some ⟨c7, 0, none⟩) o.ids.length o.ids.length))) (go_keep)
        (first
        | (go_at_call 8; refine (toOcc_any o.fr o.tl p cp o.ids _ (ho.below b012d) hn2).mono ?_; rintro e w13 ⟨c13, rfl, hr13, hg13, hl13, hb13⟩; obtain ⟨r0, r1, r2⟩ := (hX12d.below hb13).cells; obtain ⟨s0, s1, s2⟩ := (hA12d.below hb13).cells)
        | (go_at_call 11; refine (eqOcc_any o.fr o.tl _ _ o.ids o.fr o.tl _ _ o.ids _ (i12.below hb13) (hr13.ints hleno)).mono ?_; rintro e w14 ⟨rfl, hb14⟩; obtain ⟨t0, t1, t2⟩ := ((hX12d.below hb13).below hb14).cells; obtain ⟨u0, u1, u2⟩ := ((hA12d.below hb13).below hb14).cells))
      have b013 := b012d.trans (hb13.mono b012d.size)
      have b014 := b013.trans (hb14.mono b013.size)
      have b913 := b912d.trans (hb13.mono b912d.size)
      have b914 := b913.trans (hb14.mono b913.size)
      have ow14 := ow9.below b914
      have ox14 := ox9.below b914
      have og14 := og9.below b914
      have hA14 := hA9.below b914
      have hX14 := hX9.below b914
      have hr14 : IntRow w14 c7 o.ids := (hr8.of_block (hb9.block c7 (by omega))).of_block (b914.block c7 (by omega))
      have s14 := b914.size
      have N6 : Hid (l.length = L6.length) := by show _ = _; rw [← hL6]; simp
      clear x0 x1 x2 y0 y1 y2 r0 r1 r2 t0 t1 t2 u0 u1 u2 ow9 ox9 og9 hA9 hX9 hA12 hX12 hA12d hX12d i12 hr13 hr8
      go_wp2_with fail
      refine (markOccS_any _ _ _ _ _ L6 1 _ ox14 N6.out (by rw [hL6]; exact hbig) (by omega) (by omega)).mono ?_
      rintro e w15 ⟨rfl, _, hW15⟩
      obtain ⟨k0, k1⟩ := kAll_bound (k := 1) (L := L6) (by omega) (by omega) (by rw [hL6]; exact hbig)
      have ow15 := ow14.within hW15 (by omega)
      have og15 := og14.within hW15 (by omega)
      have hA15 := hA14.within hW15 (by omega)
      have hX15 := hX14.within hW15 (by omega)
      have hr15 : IntRow w15 c7 o.ids := hr14.of_block (hW15.block c7 (by omega) (by omega))
      have s15 := hW15.size
      have b015 : Below w.heap.size w w15 := b014.trans (hW15.below s5 (by have := b014.size; omega))
      obtain ⟨kx, hkx⟩ : ∃ kx, kAll 1 L6 = kx := ⟨_, rfl⟩
      rw [hkx] at k0 k1 ⊢
      obtain ⟨x0, x1, x2⟩ := hX15.cells
      clear hkx ow14 og14 ox14 hA14 hX14 hr14
      go_wp2_with fail
      refine (markOcc_one c7 o.fr o.tl (some ⟨c7, 0, none⟩) _ o.ids kx _ (IntOwn.of_row hr15 (Nat.le_refl _) hleno) hn2 k0 (by omega)).mono ?_
      rintro e w16 ⟨rfl, _, hg16⟩
      have hW16 : Within c7 (c7 + 1) w15 w16 := Within.of_grown hg16
      have ow16 := ow15.within hW16 (by omega)
      have og16 := og15.within hW16 (by omega)
      have hA16 := hA15.within hW16 (by omega)
      have s16 := hW16.size
      have b016 : Below w.heap.size w w16 := b015.trans (hW16.below (by omega) (by have := b015.size; omega))
      obtain ⟨ky, hky⟩ : ∃ ky, kx + (o.ids.length : Int) = ky := ⟨_, rfl⟩
      have hky0 : ¬ (ky < 0) := by omega
      rw [hky]
      clear hky x0 x1 x2 ow15 og15 hA15 hX15 hr15
      go_wp2_with fail
      refine (eqOccS_any _ _ _ _ R R _ (og16.reads m9) (ow16.reads m5)).mono ?_
      rintro e w17 ⟨rfl, hb17⟩
      have b017 := b016.trans (hb17.mono b016.size)
      have ow17 := ow16.below hb17
      have og17 := og16.below hb17
      have hA17 := hA16.below hb17
      have s17 := hb17.size
      clear ow16 og16 hA16
      go_wp2_with fail
      refine (markOccS_any _ _ _ _ _ (ocPairs L9) 1 _ og17 N9.out (by rw [m9]; exact hRs) (by omega) (by omega)).mono ?_
      rintro e w18 ⟨rfl, og18, hW18⟩
      have ow18 := ow17.within hW18 (by omega)
      have hA18 := hA17.within hW18 (by omega)
      have b018 : Below w.heap.size w w18 := b017.trans (hW18.below b08.size (by have := b017.size; omega))
      obtain ⟨i0, i1⟩ := kAll_bound (k := 1) (L := ocPairs L9) (by omega) (by omega) (by rw [m9]; exact hRs)
      obtain ⟨kg, hkg⟩ : ∃ kg, kAll 1 (ocPairs L9) = kg := ⟨_, rfl⟩
      have Hkg : Hid (kAll 1 (ocPairs L9) = kg) := hkg
      rw [hkg] at i0 i1 ⊢
      clear hkg ow17 og17 hA17
      have hkg0 : ¬ (kg < 0) := by omega
      have hkgn : (kg != kg) = false := by simp
      go_wp2_with fail
      refine (heldOccS_any _ _ _ (ocPairs L9) 1 _ og18.occs N9.out (by rw [m9]; exact hRs) (by omega) (by omega)).mono ?_
      rintro e w19 ⟨rfl, hb19⟩
      rw [Hkg.out]
      have b019 := b018.trans (hb19.mono b018.size)
      have hA19 := hA18.below hb19
      have hA19d : Box3 w19.drew w.heap.size (.int .i64 o.fr) (.int .i64 o.tl) (.slice p o.ids.length cp) := hA19
      have b019d := b019.drew
      have hb19d := hb19.drew
      obtain ⟨x0, x1, x2⟩ := hA19.cells
      go_wp2_with fail
      go_region_held (fun v => v.cell? ⟨w.heap.size, 0, none⟩ = some (.int .i64 o.fr) ∧ v.cell? ⟨w.heap.size, 1, none⟩ = some (.int .i64 o.tl) ∧ v.cell? ⟨w.heap.size, 2, none⟩ = some (.slice p o.ids.length cp)) (go_keep)
        (first
        | (go_at_call 7; refine (toOccS_any _ _ l _ (h.below b019d) hbig).mono ?_; rintro e w20 ⟨L20, rfl, hL20, hR20, hb20⟩; obtain ⟨r0, r1, r2⟩ := (hA19d.below hb20).cells; have b020 := b019d.trans (hb20.mono b019d.size))
        | (go_at_call 8; refine (toOcc_any o.fr o.tl p cp o.ids _ (ho.below b020) hn2).mono ?_; rintro e w21 ⟨c21, rfl, hr21, hg21, hl21, hb21⟩; obtain ⟨r0, r1, r2⟩ := ((hA19d.below hb20).below hb21).cells; have b021 := b020.trans (hb21.mono b020.size))
        | (go_at_call 9; refine (himpl _ _ _ _ _ (((OwnL.of_row hR20).reads hL20).below hb21) (hr21.ints hleno)).mono ?_; rintro e w22 ⟨v22, L22, rfl, hL22, hO22, hb22⟩; obtain ⟨r0, r1, r2⟩ := (((hA19d.below hb20).below hb21).below hb22).cells; have b022 := b021.trans (hb22.mono b021.size)))
      obtain ⟨ah, ch, rfl⟩ := pOwns_slice hO22.row
      have oh22 := OwnL.of_own hO22
      have n22 : L22.length = R.length := by rw [← hL22]; simp
      have m22 : (ocPairs L22).map (·.1) = R := by rw [ocPairs_map]; exact hL22
      rw [n22]
      have b1820 := hb19d.trans (hb20.mono hb19d.size)
      have b1821 := b1820.trans (hb21.mono b1820.size)
      have b1822 := b1821.trans (hb22.mono b1821.size)
      clear hO22 n22 hR20 hr21 x0 x1 x2 r0 r1 r2
      go_wp2_with fail
      refine (eqOccS_any _ _ _ _ R R _ (oh22.reads m22) ((ow18.below b1822).reads m5)).mono ?_
      rintro e w23 ⟨rfl, hb23⟩
      have b023 := b022.trans (hb23.mono b022.size)
      have b1823 := b1822.trans (hb23.mono b1822.size)
      go_wp2_with fail
      refine (heldOccS_any _ _ _ (ocPairs L9) 1 _ (og18.below b1823).occs N9.out (by rw [m9]; exact hRs) (by omega) (by omega)).mono ?_
      rintro e w24 ⟨rfl, hb24⟩
      rw [Hkg.out]
      go_wp2
      go_ret
      exact ⟨rfl, b023.trans (hb24.mono b023.size)⟩
    · have hif' : szDown (1048576 - occsSize l) o.ids.length = -1 := if_pos (by omega)
      go_enter Try.func3, Try.ntmps3
      go_wp2_with fail
      refine (szOccS_any _ _ l _ _ (h.below b00) (by omega) (by omega)).mono ?_
      rintro e w1 ⟨rfl, hb1⟩
      rw [hif]
      clear hif
      have b01 := b00.trans (hb1.mono b00.size)
      obtain ⟨x0, x1, x2⟩ := (hA0.below hb1).cells
      go_wp2_with fail
      refine (szOcc_any o.fr o.tl p o.ids.length cp _ _ hleno (by omega) (by omega)).mono ?_
      rintro e w2 ⟨rfl, hb2⟩
      rw [hif']
      clear hif'
      go_wp2
      go_ret
      exact ⟨rfl, b01.trans (hb2.mono b01.size)⟩
  · have hif : szDown 1048576 (occsSize l) = -1 := if_pos (by omega)
    go_enter Try.func3, Try.ntmps3
    go_wp2_with fail
    refine (szOccS_any _ _ l _ _ (h.below b00) (by omega) (by omega)).mono ?_
    rintro e w1 ⟨rfl, hb1⟩
    rw [hif]
    clear hif
    go_wp2
    go_ret
    exact ⟨rfl, b00.trans (hb1.mono b00.size)⟩

set_option maxRecDepth 100000 in
theorem lifted (os : Os) (started : os.Started) (H : Type) (enc : TypeId × Value → H) :
    ReturnsInHanded {} Try.checked os 3 .any (Rows.fnExactOccsPutSpec.pre6 enc Try.prog Try.f3 Rows.fnExactOccsPutRow.domain false) (Rows.fnExactOccsPutSpec.post enc Try.prog Try.f3 false true false false) := by
  refine returnsInHanded_of_change (C := Try.checked) own started (by kernel_rfl) Try.func3
    (ChangeSpec.witness6 (enc := enc) (C := Try.checked) false ⟨#[], #[.slice none 0 0, .agg #[.int .i64 0, .int .i64 0, .slice none 0 0]], []⟩ 8 (by kernel_rfl) (by kernel_rfl) (by kernel_rfl) (by kernel_rfl)) ?_
  intro W base args ds gs before hval0 hW hcnd _
  have hval : ∀ (j : Nat) t v, Try.f3.params[j]? = some t → args[j]? = some v → Value.okWide Try.prog W .any base t v := hval0
  have hW' := hW
  obtain ⟨p, q, hA0, hV, rfl, hfz, hnd⟩ := hW
  have hA : DataW.TrodAll enc Try.prog W 0 (fun _ => true) true Try.f3.params.toList args.toList ds p := hA0
  rw [Try.params3] at hA hval
  obtain ⟨v0, vs0, d0, ds0, p0, q0, hargs, rfl, rfl, h0, r0⟩ := trodAll_cons hA
  obtain ⟨v1, vs1, d1, ds1, p1, q1, rfl, rfl, rfl, h1, r1⟩ := trodAll_cons r0
  obtain ⟨rfl, rfl, rfl⟩ := trodAll_nil r1
  obtain rfl : args = #[v0, v1] := by cases args; simp_all
  obtain ⟨rfl, rfl⟩ := trodVars_none hV
  have k0 := h0
  have lt0 : ∀ x ∈ p0, x.block < W.heap.size := by obtain ⟨m, hm⟩ := k0; exact DataW.trod_lt m _ _ _ hm
  have k1 := h1
  have lt1 : ∀ x ∈ p1, x.block < W.heap.size := by obtain ⟨m, hm⟩ := k1; exact DataW.trod_lt m _ _ _ hm
  obtain ⟨a0, cap0, l0, rfl, e0, f0⟩ := open_occs (hval 0 22 v0 rfl rfl) h0
  obtain ⟨a1, cap1, o1, rfl, e1, f1⟩ := open_occ (hval 1 25 v1 rfl rfl) h1
  clear hA0 hval0
  refine (walk a0 cap0 l0 a1 cap1 o1 W e0 f0 e1 f1).mono fun e W' ⟨he, bel⟩ => ?_
  subst he
  exact ⟨_, rfl, _, _, _, [], _, [], hW', trodAll_mk1 (shut_bool Try.underlying4 _), (trodAll_cons_mk (Below.trod laidOut (by kernel_rfl) (of_decide_eq_true (by kernel_rfl)) k0 bel lt0) (trodAll_cons_mk (Below.trod laidOut (by kernel_rfl) (of_decide_eq_true (by kernel_rfl)) k1 bel lt1) trodAll_mk0)), rfl, bel.frame _, fun h => by cases h⟩

theorem over : Rows.fnExactOccsPutRow.holds Try.pinned (OpenSpec.ofChange Rows.fnExactOccsPutSpec) :=
  OpenClaim.holds_of_wide 3 Try.f3 rfl rfl rfl rfl rfl rfl rfl ⟨rfl, rfl, rfl, rfl, rfl⟩ rfl rfl rfl rfl rfl (by kernel_rfl) Try.func3 (by kernel_rfl)
    (of_decide_eq_true (by kernel_rfl)) (by unfold Func.isWrapper; first | (rw [if_pos (by decide +kernel)]; kernel_rfl) | (rw [if_neg (by decide +kernel)]; exact ⟨rfl, rfl⟩))
    (fun os started H enc _ => lifted os started H enc)
end Go.Proofs.Ythgjmkmellhlmaa.fnExactOccsPut
namespace Go.Proofs.Ythgjmkmellhlmaa
theorem fnExactOccsPut_holds : Rows.FnExactOccsPutSaid := fnExactOccsPut.over
#print axioms fnExactOccsPut_holds
end Go.Proofs.Ythgjmkmellhlmaa

