/- Whatever is drawn: of two places the first is ahead of the second, or the second of the first, or they are one; a place that is put into a list that is ok is there then, and nothing else has turned; the program's answers are the specification's. The library's tables are as its text lays them. -/
import Derived.Test.YtjaneedmhekheaaDoorDraw9
import Derived.Test.YtjaneedmhekheaaDoorOccIn
import Derived.Test.YtjaneedmhekheaaDoorOccTx
import Derived.Test.YtjaneedmhekheaaDoorOccT2
import Derived.Test.YtjaneedmhekheaaDoorOccPut1
import Derived.Test.YtjaneedmhekheaaDoorCards
import Derived.Test.YtjaneedmhekheaaDoorTie
import Derived.Deep.DeepHandedRow
import Derived.Lib.LaidTab
import Derived.Deep.CutRange
import Derived.Deep.DeepCutAuto
namespace Go.Proofs.YtjaneedmhekheaaDoor.fnOcc
open Go.ChangeShapes Go.WideShapes Go.ChangeAt Go.RowKit
set_option linter.unusedVariables false
set_option maxRecDepth 4000
theorem total_le : ∀ (l : List Occ), (∀ o ∈ l, o.Wd) → idsTotal l ≤ 24 * l.length
  | [], _ => Nat.le_refl _
  | o :: r, h => by
    have h1 := (h o (by simp)).2
    have h2 := total_le r (fun x hx => h x (by simp [hx]))
    simp only [idsTotal, List.length_cons]
    omega
theorem size_le {l : List Occ} (h : ∀ o ∈ l, o.Wd) (hl : l.length ≤ 8) : occsSize l ≤ 1048576 := by
  have := total_le l h
  unfold occsSize
  omega
theorem wf_of {l : List Occ} (h : ∀ o ∈ l, o.Wd) : ∀ o ∈ l, o.Wf := fun o ho => (h o ho).1
theorem putF_new {o : Occ} {l : List Occ} (h : ¬ o ∈ l) : (putF o l).length = l.length + 1 := by
  have hm : o ∈ putF o l := (mem_putF o l o).2 (.inr rfl)
  unfold putF at hm ⊢
  split
  · rename_i hs
    rw [if_pos hs] at hm
    exact absurd hm h
  · have := placeF_le o l
    simp only [List.length_append, List.length_cons, List.length_take, List.length_drop]
    omega
theorem one_eq (x y : Occ) : occsEqB [x] [y] = oEqB x y := by simp [occsEqB, oEqB]
theorem puts_wd {l : List Occ} {o : Occ} (h : ∀ x ∈ l, x.Wd) (ho : o.Wd) : ∀ x ∈ putsF l o, x.Wd := fun x hx => by
  unfold putsF at hx
  split at hx
  · rcases (mem_putF o l x).1 hx with h1 | rfl
    · exact h x h1
    · exact ho
  · cases hx
theorem puts_len (l : List Occ) (o : Occ) : (putsF l o).length ≤ l.length + 1 := by
  unfold putsF
  split
  · exact putF_len o l
  · simp
set_option maxHeartbeats 8000000 in
theorem walk (a0 : Option Addr) (cap0 : Nat) (c0 : List Int) (w : World) (h0 : Bytes w a0 c0 ∧ c0.length ≤ cap0) (ht : Tab w) :
    Calls Tryd.prog 3 #[.slice a0 c0.length cap0] w fun e w' => e = .returned (.bool true) ∧ Below w.heap.size w w' := by
  have hm0 := h0.1.len
  unfold maxLen at hm0
  by_cases hbig : (1048576 : Int) < (c0.length : Int)
  · go_enter Tryd.func3, Tryd.ntmps3
    go_wp2
    go_ret
    exact ⟨rfl, Below.refl _ _⟩
  go_enter Tryd.func3, Tryd.ntmps3
  go_wp2_with fail
  refine (drawOccLess_any a0 cap0 c0 w h0.1 h0.2).mono ?_
  rintro e w1 ⟨oa, ob, aa, ab, ca, cb, rfl, hoka, hokb, hia, hib, hb1⟩
  obtain ⟨hA2, hB2, hb2⟩ := in_two w1 oa ob aa ab ca cb hia hib
  obtain ⟨w2, hw2⟩ : ∃ w2, (w1.alloc (.cells #[.int .i64 oa.fr, .int .i64 oa.tl, .slice aa oa.ids.length ca] 25)).alloc (.cells #[.int .i64 ob.fr, .int .i64 ob.tl, .slice ab ob.ids.length cb] 25) = w2 := ⟨_, rfl⟩
  rw [hw2] at hA2 hB2 hb2
  have b2 := hb1.trans (hb2.mono hb1.size)
  obtain ⟨A, hAe⟩ : ∃ A, w1.heap.size = A := ⟨_, rfl⟩
  rw [hAe] at hA2 hB2
  have Hsa : Small oa.ids := occOkB_small hoka
  have Hsb : Small ob.ids := occOkB_small hokb
  obtain ⟨x0, x1, x2⟩ := hA2.cells
  obtain ⟨y0, y1, y2⟩ := hB2.cells
  obtain ⟨p, hp⟩ : ∃ p, lessB oa.fr oa.tl oa.ids ob.fr ob.tl ob.ids = p := ⟨_, rfl⟩
  have Hp : Hid (lessB oa.fr oa.tl oa.ids ob.fr ob.tl ob.ids = p) := hp
  obtain ⟨q, hq⟩ : ∃ q, lessB ob.fr ob.tl ob.ids oa.fr oa.tl oa.ids = q := ⟨_, rfl⟩
  have Hq : Hid (lessB ob.fr ob.tl ob.ids oa.fr oa.tl oa.ids = q) := hq
  clear hp hq
  go_wp2_with fail
  refine (implOccLess_any oa.fr oa.tl aa ca oa.ids ob.fr ob.tl ab cb ob.ids w2 hA2.ids hB2.ids).mono ?_
  rintro e w3 ⟨rfl, hb3⟩
  rw [Hp.out]
  clear x0 x1 x2 y0 y1 y2
  have hA3 := hA2.below hb3
  have hB3 := hB2.below hb3
  have b3 := b2.trans (hb3.mono b2.size)
  obtain ⟨x0, x1, x2⟩ := hA3.cells
  obtain ⟨y0, y1, y2⟩ := hB3.cells
  go_wp2_with fail
  refine (implOccLess_any ob.fr ob.tl ab cb ob.ids oa.fr oa.tl aa ca oa.ids w3 hB3.ids hA3.ids).mono ?_
  rintro e w4 ⟨rfl, hb4⟩
  rw [Hq.out]
  clear x0 x1 x2 y0 y1 y2
  have hA4 := hA3.below hb4
  have hB4 := hB3.below hb4
  have b4 := b3.trans (hb4.mono b3.size)
  obtain ⟨x0, x1, x2⟩ := hA4.cells
  obtain ⟨y0, y1, y2⟩ := hB4.cells
  have hLA := occs_new w4 oa aa ca hA4.ids
  have hbA := oBelow_new w4 (.cells #[.int .i64 oa.fr, .int .i64 oa.tl, .slice aa oa.ids.length ca] 25)
  obtain ⟨wa, hwa⟩ : ∃ wa, w4.alloc (.cells #[.int .i64 oa.fr, .int .i64 oa.tl, .slice aa oa.ids.length ca] 25) = wa := ⟨_, rfl⟩
  rw [hwa] at hLA hbA
  obtain ⟨y0', y1', y2'⟩ := (hB4.below hbA).cells
  have hLB := occs_new wa ob ab cb (hB4.ids.below hbA)
  have hbB := oBelow_new wa (.cells #[.int .i64 ob.fr, .int .i64 ob.tl, .slice ab ob.ids.length cb] 25)
  have hsame := implOccsSame_any (some ⟨w4.heap.size, 0, none⟩) (some ⟨wa.heap.size, 0, none⟩) 1 1 [oa] [ob] _ (hLA.below hbB) hLB
  obtain ⟨s, hs⟩ : ∃ s, oEqB oa ob = s := ⟨_, rfl⟩
  have Hs : Hid (oEqB oa ob = s) := hs
  rw [one_eq, hs] at hsame
  clear hs
  go_wp2_with fail
  refine hsame.mono ?_
  rintro e w5 ⟨rfl, hb5⟩
  have b5 := b4.trans (((hbA.trans (hbB.mono hbA.size)).trans (hb5.mono (Nat.le_trans hbA.size hbB.size))).mono b4.size)
  have hA5 := ((hA4.below hbA).below hbB).below hb5
  have hB5 := ((hB4.below hbA).below hbB).below hb5
  clear x0 x1 x2 y0 y1 y2 y0' y1' y2' hLA hLB hwa hw2 hA2 hA3 hA4 hB2 hB3 hB4 hb1 hb2 hb3 hb4 hb5 b2 b3 b4 hbA hbB hsame hia hib
  obtain ⟨x0, x1, x2⟩ := hA5.cells
  obtain ⟨y0, y1, y2⟩ := hB5.cells
  go_upto_region 7 with fail
  go_cut [54] (fun v wx => v = .bool false ∧ Below w5.heap.size w5 wx)
  case first =>
    have hspec := specOccLess_any oa.fr oa.tl aa ca oa.ids ob.fr ob.tl ab cb ob.ids w5 hA5.ids hB5.ids Hsa Hsb
    rw [Hp.out] at hspec
    cases p
    · have h1 : ¬ ocmp oa ob < 0 := (oLess_not oa ob).1 Hp.out
      cases q
      · have h2 : ¬ ocmp ob oa < 0 := (oLess_not ob oa).1 Hq.out
        have h3 := ocmp_flip oa ob
        have hs : s = true := by rw [← Hs.out]; exact (oEqB_iff oa ob).2 ((ocmp_zero oa ob).1 (by omega))
        subst hs
        go_wp2_with fail
        refine hspec.mono ?_
        rintro e w6 ⟨rfl, hb6⟩
        go_wp2_with fail
        go_meet
        exact ⟨rfl, hb6⟩
      · have h2 : ocmp ob oa < 0 := (oLess_iff ob oa).1 Hq.out
        have hs : s = false := by
          rw [← Hs.out, Bool.eq_false_iff]
          exact fun h => by
            have := (oEqB_iff oa ob).1 h
            subst this
            exact ocmp_irr oa h2
        subst hs
        go_wp2_with fail
        refine hspec.mono ?_
        rintro e w6 ⟨rfl, hb6⟩
        go_wp2_with fail
        go_meet
        exact ⟨rfl, hb6⟩
    · have h1 : ocmp oa ob < 0 := (oLess_iff oa ob).1 Hp.out
      cases q
      · have hs : s = false := by
          rw [← Hs.out, Bool.eq_false_iff]
          exact fun h => by
            have := (oEqB_iff oa ob).1 h
            subst this
            exact ocmp_irr oa h1
        subst hs
        go_wp2_with fail
        refine hspec.mono ?_
        rintro e w6 ⟨rfl, hb6⟩
        go_wp2_with fail
        go_meet
        exact ⟨rfl, hb6⟩
      · have h2 : ocmp ob oa < 0 := (oLess_iff ob oa).1 Hq.out
        have h3 := ocmp_flip oa ob
        omega
  case rest =>
    obtain ⟨rfl, hbc⟩ := hcut
    have bc := b5.trans (hbc.mono b5.size)
    clear x0 x1 x2 y0 y1 y2 hA5 hB5 Hsa Hsb Hp Hq Hs hoka hokb b5 hbc
    have hdp := drawOccsPut_any a0 cap0 c0 wc (h0.1.below bc) h0.2
    go_wp2_with fail
    refine hdp.mono ?_
    rintro e w7 ⟨al, ao, cl, co, l, o, rfl, hl7, hlc, hE7, hI7, hwl, hwo, hb7⟩
    clear hdp
    have b7 := bc.trans (hb7.mono bc.size)
    have hX8 : In (w7.alloc (.cells #[.int .i64 o.fr, .int .i64 o.tl, .slice ao o.ids.length co] 25)) w7.heap.size o ao co := ⟨heap_alloc_new w7 _, hI7.below (oBelow_new _ _)⟩
    have hb8 := oBelow_new w7 (.cells #[.int .i64 o.fr, .int .i64 o.tl, .slice ao o.ids.length co] 25)
    obtain ⟨w8, hw8⟩ : ∃ w8, w7.alloc (.cells #[.int .i64 o.fr, .int .i64 o.tl, .slice ao o.ids.length co] 25) = w8 := ⟨_, rfl⟩
    rw [hw8] at hX8 hb8
    have hE8 := hE7.below hb8
    have b8 := b7.trans (hb8.mono b7.size)
    obtain ⟨C, hC⟩ : ∃ C, w7.heap.size = C := ⟨_, rfl⟩
    rw [hC] at hX8
    obtain ⟨x0, x1, x2⟩ := hX8.cells
    go_wp2_with fail
    refine (implOccsPut_any al cl l o ao co w8 hE8 hX8.ids).mono ?_
    rintro e w9 ⟨v9, L9, rfl, hL9, hO9, hb9⟩
    obtain ⟨a9, c9, rfl⟩ := pOwns_slice hO9.row
    have hcap9 : L9.length ≤ c9 := by
      rcases hO9.row.2 with ⟨e, hn⟩ | ⟨g, cap, cur, e, _, _, hn, _⟩
      · omega
      · simp only [Value.slice.injEq] at e
        omega
    have hP9 := hO9.occs
    rw [hL9] at hP9
    have hl9 : L9.length = (putsF l o).length := by rw [← hL9, List.length_map]
    rw [hl9] at hcap9
    rw [hl9]
    have hwX := puts_wd hwl hwo
    have hlX := puts_len l o
    obtain ⟨X, hXe⟩ : ∃ X, putsF l o = X := ⟨_, rfl⟩
    have HX : Hid (putsF l o = X) := hXe
    rw [hXe] at hP9 hcap9 hwX hlX
    rw [hXe]
    clear hXe hl9 hO9 hL9 x0 x1 x2
    have hE9 := hE8.below hb9
    have hX9 := hX8.below hb9
    have b9 := b8.trans (hb9.mono b8.size)
    obtain ⟨x0, x1, x2⟩ := hX9.cells
    go_wp2_with fail
    refine (specOccsPut_any al cl l o ao co w9 hE9 hX9.ids).mono ?_
    rintro e w10 ⟨v10, L10, rfl, hL10, hO10, hb10⟩
    obtain ⟨a10, c10, rfl⟩ := pOwns_slice hO10.row
    have hQ10 := hO10.occs
    rw [hL10, HX.out] at hQ10
    have hl10 : L10.length = X.length := by rw [← HX.out, ← hL10, List.length_map]
    rw [hl10]
    clear hl10 hO10 hL10 x0 x1 x2
    have hE10 := hE9.below hb10
    have hX10 := hX9.below hb10
    have hP10 := hP9.below hb10
    have b10 := b9.trans (hb10.mono b9.size)
    obtain ⟨x0, x1, x2⟩ := hX10.cells
    have hself := occsEqB_self X
    go_wp2_with fail
    refine (implOccsSame_any a9 a10 c9 c10 X X w10 hP10 hQ10).mono ?_
    rintro e w11 ⟨rfl, hb11⟩
    rw [hself]
    have b11 := b10.trans (hb11.mono b10.size)
    have hE11 := hE10.below hb11
    have hX11 := hX10.below hb11
    have hP11 := hP10.below hb11
    go_wp2_with fail
    refine (implOccsOk_any al cl l w11 hE11).mono ?_
    rintro e w12 ⟨rfl, hb12⟩
    have b12 := b11.trans (hb12.mono b11.size)
    have hE12 := hE11.below hb12
    have hX12 := hX11.below hb12
    have hP12 := hP11.below hb12
    go_wp2_with fail
    refine (specOccsOk_any al cl l w12 hE12).mono ?_
    rintro e w13 ⟨rfl, hb13⟩
    have b13 := b12.trans (hb13.mono b12.size)
    have hE13 := hE12.below hb13
    have hX13 := hX12.below hb13
    have hP13 := hP12.below hb13
    obtain ⟨ok, hok⟩ : ∃ ok, occsOkB l = ok := ⟨_, rfl⟩
    have Hok : Hid (occsOkB l = ok) := hok
    rw [hok]
    have hokk : (ok != ok) = false := by cases ok <;> rfl
    have hsX := size_le hwX (by omega)
    clear hE7 hE8 hE9 hE10 hE11 hE12 hX8 hX9 hX10 hX11 hX12 hP9 hP10 hP11 hP12 hb7 hb8 hb9 hb10 hb11 hb12 hb13 b7 b8 b9 b10 b11 b12 hok hself hQ10 x0 x1 x2 hI7 hw8
    go_wp2_with fail
    refine (implOccsText_any a9 c9 X w13 hP13 hsX (wf_of hwX) (ht.below b13 ht.lt)).mono ?_
    rintro e w14 ⟨rfl, hb14⟩
    have b14 := b13.trans (hb14.mono b13.size)
    have hE14 := hE13.below hb14
    have hX14 := hX13.below hb14
    have hP14 := hP13.below hb14
    go_wp2_with fail
    refine (specOccsText_any a9 c9 X w14 hP14 hsX (wf_of hwX)).mono ?_
    rintro e w15 ⟨rfl, hb15⟩
    have b15 := b14.trans (hb15.mono b14.size)
    have hE15 := hE14.below hb15
    have hX15 := hX14.below hb15
    have hP15 := hP14.below hb15
    obtain ⟨x0, x1, x2⟩ := hX15.cells
    clear hE13 hE14 hX13 hX14 hP13 hP14 hb14 hb15 b13 b14 hokk
    go_wp2_with fail
    refine (specOccsOk_any al cl l w15 hE15).mono ?_
    rintro e w16 ⟨rfl, hb16⟩
    rw [Hok.out]
    have b16 := b15.trans (hb16.mono b15.size)
    have hE16 := hE15.below hb16
    have hX16 := hX15.below hb16
    have hP16 := hP15.below hb16
    clear x0 x1 x2
    obtain ⟨x0, x1, x2⟩ := hX16.cells
    cases ok
    · have hX0 : X = [] := by rw [← HX.out]; simp [putsF, Hok.out]
      subst hX0
      go_wp2
      go_ret
      exact ⟨rfl, b16⟩
    · go_wp2_with fail
      refine (specOccOk_any o.fr o.tl ao co o.ids w16 hX16.ids).mono ?_
      rintro e w17 ⟨rfl, hb17⟩
      have b17 := b16.trans (hb17.mono b16.size)
      have hE17 := hE16.below hb17
      have hX17 := hX16.below hb17
      have hP17 := hP16.below hb17
      clear x0 x1 x2 hE15 hE16 hX15 hX16 hP15 hP16 hb16 hb17 b15 b16
      cases hoo : occOkB o.fr o.tl o.ids
      · have hX0 : X = [] := by rw [← HX.out]; simp [putsF, hoo]
        subst hX0
        go_wp2
        go_ret
        exact ⟨rfl, b17⟩
      have Hoo : Hid (occOkB o.fr o.tl o.ids = true) := hoo
      have hXv : X = putF o l := by rw [← HX.out]; simp [putsF, hoo, Hok.out]
      have HXv : Hid (X = putF o l) := hXv
      have hascX : AscO X := by rw [hXv]; exact asc_putF o l (asc_ok Hok.out)
      have hoX : o ∈ X := by rw [hXv]; exact (mem_putF o l o).2 (.inr rfl)
      have hokX : occsOkB X = true := ok_of_asc (fun x hx => by
        rw [hXv] at hx
        rcases (mem_putF o l x).1 hx with h1 | rfl
        · exact ok_all Hok.out x h1
        · exact Hoo.out) hascX (by omega)
      have HokX : Hid (occsOkB X = true) := hokX
      have HoX : Hid (o ∈ X) := hoX
      clear hXv hoo hascX hoX hokX
      obtain ⟨n, hn⟩ : ∃ n, X.length = n := ⟨_, rfl⟩
      have Hn : Hid (X.length = n) := hn
      obtain ⟨m, hm⟩ : ∃ m, l.length = m := ⟨_, rfl⟩
      have Hm : Hid (l.length = m) := hm
      rw [hn, hm]
      rw [hn] at hlX hcap9
      rw [hm] at hl7 hlX hlc
      clear hn hm
      go_wp2_with fail
      go_loopw [11, 13] (fun vh vi wr => ∃ (j : Nat) (h : Bool), j ≤ n ∧ vi = .int .i64 j ∧ vh = .bool h ∧ Hid (h = true ↔ ∃ k, ∃ hk : k < X.length, k < j ∧ X[k] = o) ∧ Occs wr al l ∧ In wr C o ao co ∧ Occs wr a9 X ∧ Below w.heap.size w wr) (fun _ vi _ => n - (intOf vi).toNat)
      case atStart => exact ⟨0, false, Nat.zero_le _, rfl, rfl, by simp [Hid], hE17, hX17, hP17, b17⟩
      case round =>
        obtain ⟨j, h, hj, rfl, rfl, hh, hE, hX, hP, hbr⟩ := hrel
        clear hE17 hX17 hP17 b17
        by_cases hjn : j < n
        · have hjn' : (j : Int) < (n : Int) := by omega
          have hlj : j < X.length := by rw [Hn.out]; exact hjn
          cases h
          · obtain ⟨b, off, rfl, hbl, _⟩ := hP.cells (by omega)
            have hsub := hP.sub hlj
            obtain ⟨t, ht'⟩ : ∃ t, oEqB X[j] o = t := ⟨_, rfl⟩
            have Ht : Hid (oEqB X[j] o = t) := ht'
            have hh' : Hid (t = true ↔ ∃ k, ∃ hk : k < X.length, k < j + 1 ∧ X[k] = o) := by
              constructor
              · intro e
                exact ⟨j, hlj, by omega, (oEqB_iff _ _).1 (Ht.out.trans e)⟩
              · rintro ⟨k, hk, h1, h2⟩
                by_cases hkj : k = j
                · subst hkj
                  rw [← Ht.out]
                  exact (oEqB_iff _ _).2 h2
                · exact absurd (hh.out.2 ⟨k, hk, by omega, h2⟩) (by simp)
            have hk1 : (j : Int) ≤ (j : Int) + 1 := by omega
            have hk2 : (j : Int) + 1 ≤ (c9 : Int) := by omega
            have hcj : ¬ c9 = j := by omega
            have hcj' : (c9 = j) = False := by simpa using hcj
            have hk3 : (0 : Int) ≤ (j : Int) := by omega
            have hk4 : (0 : Int) ≤ (j : Int) + 1 := by omega
            have hk5 : j ≤ j + 1 := by omega
            have hk6 : j + 1 - j = 1 := by omega
            have hwp : IntKind.i64.wrap ((j : Int) + 1) = (j : Int) + 1 := by rw [IntKind.wrap_i64]; omega
            have ht1 : ((j : Int) + 1).toNat = j + 1 := by omega
            have hnew := occs_new wr o ao co hX.ids
            have hba := oBelow_new wr (.cells #[.int .i64 o.fr, .int .i64 o.tl, .slice ao o.ids.length co] 25)
            obtain ⟨x0, x1, x2⟩ := hX.cells
            obtain ⟨wn, hwn⟩ : ∃ wn, wr.alloc (.cells #[.int .i64 o.fr, .int .i64 o.tl, .slice ao o.ids.length co] 25) = wn := ⟨_, rfl⟩
            rw [hwn] at hnew hba
            have hbd : Below wn.heap.size wn wn.drew := (Below.refl _ _).drew
            have hcall := implOccsSame_any (some ⟨b, off + j * 3, none⟩) (some ⟨wr.heap.size, 0, none⟩) (c9 - j) 1 [X[j]] [o] wn.drew ((hsub.below hba).below hbd) (hnew.below hbd)
            rw [one_eq, ht'] at hcall
            clear ht' hsub Ht hh
            go_wp2_with fail
            go_region_with (go_at_call 8; refine hcall.mono ?_; rintro e v1 ⟨rfl, hv1⟩)
            have kk : Below wr.heap.size wr v1 := hba.trans ((hbd.trans hv1).mono hba.size)
            clear hcall hwn hnew hcj hcj' hwp ht1 hk6 x0 x1 x2
            go_wp2_with fail
            exact ⟨⟨j + 1, t, by omega, by go_num, rfl, hh', hE.below kk, hX.below kk, hP.below kk, hbr.trans (kk.mono hbr.size)⟩, by simp [intOf]; omega⟩
          · have hh' : Hid (true = true ↔ ∃ k, ∃ hk : k < X.length, k < j + 1 ∧ X[k] = o) := by
              refine ⟨fun e => ?_, fun _ => rfl⟩
              obtain ⟨k, hk, h1, h2⟩ := hh.out.1 rfl
              exact ⟨k, hk, by omega, h2⟩
            have kk : Below wr.heap.size wr wr.drew := (Below.refl _ _).drew
            clear hh hlj
            go_wp2_with fail
            go_region
            all_goals (go_wp2_with fail)
            all_goals exact ⟨⟨j + 1, true, by omega, by go_num, rfl, ⟨fun _ => hh'.out.1 trivial, fun _ => rfl⟩, hE.below kk, hX.below kk, hP.below kk, hbr.trans (kk.mono hbr.size)⟩, by simp [intOf]; omega⟩
        · skip
          have hneg : ¬ ((j : Int) < (n : Int)) := by omega
          have htrue : h = true := by
            obtain ⟨k, hk, h2⟩ := List.getElem_of_mem HoX.out
            exact hh.out.2 ⟨k, hk, by rw [Hn.out] at hk; omega, h2⟩
          subst htrue
          clear hh
          go_wp2_with fail
          obtain ⟨wo, rfl⟩ : ∃ wo, wo = wr := ⟨_, rfl⟩
          go_loopw [12, 14] (fun vh vi wr => ∃ (j : Nat) (h : Bool), j ≤ m ∧ vi = .int .i64 j ∧ vh = .bool h ∧ Hid (h = true ↔ ∃ k, ∃ hk : k < l.length, k < j ∧ l[k] = o) ∧ Occs wr al l ∧ In wr C o ao co ∧ Occs wr a9 X ∧ Below w.heap.size w wr) (fun _ vi _ => m - (intOf vi).toNat)
          case atStart => exact ⟨0, false, Nat.zero_le _, rfl, rfl, by simp [Hid], hE, hX, hP, hbr⟩
          case round =>
            clear hE hX hP hbr hneg hj
            obtain ⟨j, h, hj, rfl, rfl, hh, hE, hX, hP, hbr⟩ := hrel
            by_cases hjn : j < m
            · have hjn' : (j : Int) < (m : Int) := by omega
              have hlj : j < l.length := by rw [Hm.out]; exact hjn
              cases h
              · obtain ⟨b, off, rfl, hbl, _⟩ := hE.cells (by omega)
                have hsub := hE.sub hlj
                obtain ⟨t, ht'⟩ : ∃ t, oEqB l[j] o = t := ⟨_, rfl⟩
                have Ht : Hid (oEqB l[j] o = t) := ht'
                have hh' : Hid (t = true ↔ ∃ k, ∃ hk : k < l.length, k < j + 1 ∧ l[k] = o) := by
                  constructor
                  · intro e
                    exact ⟨j, hlj, by omega, (oEqB_iff _ _).1 (Ht.out.trans e)⟩
                  · rintro ⟨k, hk, h1, h2⟩
                    by_cases hkj : k = j
                    · subst hkj
                      rw [← Ht.out]
                      exact (oEqB_iff _ _).2 h2
                    · exact absurd (hh.out.2 ⟨k, hk, by omega, h2⟩) (by simp)
                have hk1 : (j : Int) ≤ (j : Int) + 1 := by omega
                have hk2 : (j : Int) + 1 ≤ (cl : Int) := by omega
                have hcj : ¬ cl = j := by omega
                have hcj' : (cl = j) = False := by simpa using hcj
                have hk3 : (0 : Int) ≤ (j : Int) := by omega
                have hk4 : (0 : Int) ≤ (j : Int) + 1 := by omega
                have hk5 : j ≤ j + 1 := by omega
                have hk6 : j + 1 - j = 1 := by omega
                have hwp : IntKind.i64.wrap ((j : Int) + 1) = (j : Int) + 1 := by rw [IntKind.wrap_i64]; omega
                have ht1 : ((j : Int) + 1).toNat = j + 1 := by omega
                have hnew := occs_new wr o ao co hX.ids
                have hba := oBelow_new wr (.cells #[.int .i64 o.fr, .int .i64 o.tl, .slice ao o.ids.length co] 25)
                obtain ⟨x0, x1, x2⟩ := hX.cells
                obtain ⟨wn, hwn⟩ : ∃ wn, wr.alloc (.cells #[.int .i64 o.fr, .int .i64 o.tl, .slice ao o.ids.length co] 25) = wn := ⟨_, rfl⟩
                rw [hwn] at hnew hba
                have hbd : Below wn.heap.size wn wn.drew := (Below.refl _ _).drew
                have hcall := implOccsSame_any (some ⟨b, off + j * 3, none⟩) (some ⟨wr.heap.size, 0, none⟩) (cl - j) 1 [l[j]] [o] wn.drew ((hsub.below hba).below hbd) (hnew.below hbd)
                rw [one_eq, ht'] at hcall
                clear ht' hsub Ht hh
                go_wp2_with fail
                go_region_with (go_at_call 8; refine hcall.mono ?_; rintro e v1 ⟨rfl, hv1⟩)
                have kk : Below wr.heap.size wr v1 := hba.trans ((hbd.trans hv1).mono hba.size)
                clear hcall hwn hnew hcj hcj' hwp ht1 hk6 x0 x1 x2
                go_wp2_with fail
                exact ⟨⟨j + 1, t, by omega, by go_num, rfl, hh', hE.below kk, hX.below kk, hP.below kk, hbr.trans (kk.mono hbr.size)⟩, by simp [intOf]; omega⟩
              · have hh' : Hid (true = true ↔ ∃ k, ∃ hk : k < l.length, k < j + 1 ∧ l[k] = o) := by
                  refine ⟨fun e => ?_, fun _ => rfl⟩
                  obtain ⟨k, hk, h1, h2⟩ := hh.out.1 rfl
                  exact ⟨k, hk, by omega, h2⟩
                have kk : Below wr.heap.size wr wr.drew := (Below.refl _ _).drew
                clear hh hlj
                go_wp2_with fail
                go_region
                all_goals (go_wp2_with fail)
                all_goals exact ⟨⟨j + 1, true, by omega, by go_num, rfl, ⟨fun _ => hh'.out.1 trivial, fun _ => rfl⟩, hE.below kk, hX.below kk, hP.below kk, hbr.trans (kk.mono hbr.size)⟩, by simp [intOf]; omega⟩
            · skip
              have hneg : ¬ ((j : Int) < (m : Int)) := by omega
              have hmem : h = true ↔ o ∈ l := by
                rw [hh.out]
                constructor
                · rintro ⟨k, hk, _, h2⟩
                  rw [← h2]
                  exact List.getElem_mem hk
                · intro hm'
                  obtain ⟨k, hk, h2⟩ := List.getElem_of_mem hm'
                  exact ⟨k, hk, by rw [Hm.out] at hk; omega, h2⟩
              have Hmem : Hid (h = true ↔ o ∈ l) := hmem
              clear hmem hh
              have hputX : putsF X o = X := by
                have h1 : putsF X o = putF o X := by simp [putsF, HokX.out, Hoo.out]
                rw [h1]
                exact ascO_ext _ _ (asc_putF o X (asc_ok HokX.out)) (asc_ok HokX.out) (fun z => by
                  rw [mem_putF]
                  exact ⟨fun e => e.elim id (fun e => e ▸ HoX.out), .inl⟩)
              have hcOk := fun (v : World) (hv : Below wr.heap.size wr v) => implOccsOk_any a9 c9 X v (hP.below hv)
              rw [HokX.out, Hn.out] at hcOk
              have hcPut := fun (v : World) (hv : Below wr.heap.size wr v) => implOccsPut_any a9 c9 X o ao co v (hP.below hv) (hX.below hv).ids
              rw [hputX, Hn.out] at hcPut
              have hm40 : ((m : Int) == 40) = false := by rw [beq_eq_false_iff_ne]; omega
              have hself := occsEqB_self X
              have hcSame := fun (v : World) (hv : Below wr.heap.size wr v) (a : Option Addr) (c : Nat) (ha : Occs v a X) => implOccsSame_any a a9 c c9 X X v ha (hP.below hv)
              rw [hself, Hn.out] at hcSame
              clear hself hputX
              cases h
              · have hno : ¬ o ∈ l := fun e => by have := Hmem.out.2 e; cases this
                have hlen : n = m + 1 := by
                  rw [← Hn.out, ← Hm.out, HXv.out]
                  exact putF_new hno
                have hnm : ((n : Int) == (m : Int) + 1) = true := by rw [beq_iff_eq]; omega
                have hwm : IntKind.i64.wrap ((m : Int) + 1) = (m : Int) + 1 := by rw [IntKind.wrap_i64]; omega
                clear hlen hno
                go_wp2_with fail
                refine (hcOk wr (Below.refl _ _)).mono ?_
                rintro e y1 ⟨rfl, hy1⟩
                obtain ⟨x0, x1, x2⟩ := (hX.below hy1).cells
                go_wp2_with fail
                refine (hcPut y1 hy1).mono ?_
                rintro e y2 ⟨v2, L2, rfl, hL2, hO2, hy2⟩
                obtain ⟨a2, c2, rfl⟩ := pOwns_slice hO2.row
                have hQ := hO2.occs
                rw [hL2] at hQ
                have hl2 : L2.length = n := by rw [← Hn.out, ← hL2, List.length_map]
                rw [hl2]
                have hy12 := hy1.trans (hy2.mono hy1.size)
                clear hl2 hO2 hL2
                go_wp2_with fail
                refine (hcSame y2 hy12 a2 c2 hQ).mono ?_
                rintro e y3 ⟨rfl, hy3⟩
                have hy13 := hy12.trans (hy3.mono hy12.size)
                go_wp2
                go_ret
                exact ⟨rfl, hbr.trans (hy13.mono hbr.size)⟩
              · have hin : o ∈ l := Hmem.out.1 rfl
                have hXl : X = l := by
                  rw [HXv.out]
                  exact ascO_ext _ _ (asc_putF o l (asc_ok Hok.out)) (asc_ok Hok.out) (fun z => by
                    rw [mem_putF]
                    exact ⟨fun e => e.elim id (fun e => e ▸ hin), .inl⟩)
                have hcFirst := implOccsSame_any a9 al c9 cl X l wr hP hE
                rw [(occsEqB_iff X l).2 hXl, Hn.out, Hm.out] at hcFirst
                clear hXl hin
                go_wp2_with fail
                refine hcFirst.mono ?_
                rintro e y0 ⟨rfl, hy0⟩
                go_wp2_with fail
                refine (hcOk y0 hy0).mono ?_
                rintro e y1 ⟨rfl, hy1'⟩
                have hy1 := hy0.trans (hy1'.mono hy0.size)
                obtain ⟨x0, x1, x2⟩ := (hX.below hy1).cells
                go_wp2_with fail
                refine (hcPut y1 hy1).mono ?_
                rintro e y2 ⟨v2, L2, rfl, hL2, hO2, hy2⟩
                obtain ⟨a2, c2, rfl⟩ := pOwns_slice hO2.row
                have hQ := hO2.occs
                rw [hL2] at hQ
                have hl2 : L2.length = n := by rw [← Hn.out, ← hL2, List.length_map]
                rw [hl2]
                have hy12 := hy1.trans (hy2.mono hy1.size)
                clear hl2 hO2 hL2
                go_wp2_with fail
                refine (hcSame y2 hy12 a2 c2 hQ).mono ?_
                rintro e y3 ⟨rfl, hy3⟩
                have hy13 := hy12.trans (hy3.mono hy12.size)
                go_wp2
                go_ret
                exact ⟨rfl, hbr.trans (hy13.mono hbr.size)⟩

theorem gTabType : (Tryd.prog.globals[1]?).map (·.type) = some 99 := by kernel_rfl
theorem cellsTab : Tryd.prog.cellsOf 99 = 20 := by kernel_rfl
theorem cellsWord : Tryd.prog.cellsOf 93 = 1 := by kernel_rfl
theorem table {W : World} (h : laidMetH Tryd.prog Rows.fnOccRow.laid W) : Lib.TabIs Tryd.prog W "internal/strconv.uint64pow10" .u64 Lib.pow10Tab := by
  have h1 := h.filter (fun x => x.1 == "internal/strconv.uint64pow10")
  have e : Rows.fnOccRow.laid.filter (fun x => x.1 == "internal/strconv.uint64pow10") = [("internal/strconv.uint64pow10", Lib.tabData .u64 Lib.pow10Tab)] := by kernel_rfl
  rw [e] at h1
  exact Lib.tabIs_of_head (rest := []) glob gTabType Tryd.underlying99 Tryd.underlying93 cellsWord cellsTab h1

theorem contract (H : Type) (enc : TypeId × Value → H) (W : World) (base : Nat) (args : Array Value) (ds gs : List (DataW H)) (before : List MemPlace)
    (hval : ∀ (j : Nat) t v, Tryd.f3.params[j]? = some t → args[j]? = some v → Value.okWide Tryd.prog W .any base t v)
    (hW : DataW.Whole enc Tryd.prog Tryd.f3.params.toList Rows.fnOccSpec.vars false W args.toList ds gs before) (hL : laidMetH Tryd.prog Rows.fnOccRow.laid W) :
    Calls Tryd.prog 3 args W fun e W' => ∃ v, e = .returned v ∧ Rows.fnOccSpec.post enc Tryd.prog Tryd.f3 false true false false W args v W' := by
  have hW' := hW
  obtain ⟨p, q, hA0, hV, rfl, hfz, hnd⟩ := hW
  have hA : DataW.TrodAll enc Tryd.prog W 0 (fun _ => true) true Tryd.f3.params.toList args.toList ds p := hA0
  rw [Tryd.params3] at hA hval
  obtain ⟨v0, vs0, d0, ds0, p0, q0, hargs, rfl, rfl, h0, r0⟩ := trodAll_cons hA
  obtain ⟨rfl, rfl, rfl⟩ := trodAll_nil r0
  obtain rfl : args = #[v0] := by cases args; simp_all
  obtain ⟨rfl, rfl⟩ := trodVars_none hV
  have k0 := h0
  have lt0 : ∀ x ∈ p0, x.block < W.heap.size := by obtain ⟨m, hm⟩ := k0; exact DataW.trod_lt m _ _ _ hm
  obtain ⟨a0, cap0, bs0, rfl, e0⟩ := open_bytes (hval 0 22 v0 rfl rfl) h0
  clear hA0
  refine (walk a0 cap0 bs0 W e0 (table hL)).mono fun e W' ⟨he, bel⟩ => ?_
  subst he
  exact ⟨_, rfl, _, _, _, [], _, [], hW', trodAll_mk1 (shut_bool Tryd.underlying4 _), (trodAll_cons_mk (Below.trod laidOut (by kernel_rfl) (of_decide_eq_true (by kernel_rfl)) k0 bel lt0) trodAll_mk0), rfl, bel.frame _, fun h => by cases h⟩

theorem laid_met (os : Os) : laidMet Tryd.prog Rows.fnOccRow.laid (({ World.holding Tryd.prog os ⟨#[], #[], []⟩ with heap := ((((World.holding Tryd.prog os ⟨#[], #[], []⟩).heap.modify 0 fun
      | .cells _ t frozen => .cells #[.int .u8 0, .int .u8 1, .int .u8 28, .int .u8 2, .int .u8 29, .int .u8 14, .int .u8 24, .int .u8 3, .int .u8 30, .int .u8 22, .int .u8 20, .int .u8 15, .int .u8 25, .int .u8 17, .int .u8 4, .int .u8 8, .int .u8 31, .int .u8 27, .int .u8 13, .int .u8 23, .int .u8 21, .int .u8 19, .int .u8 16, .int .u8 7, .int .u8 26, .int .u8 12, .int .u8 18, .int .u8 6, .int .u8 11, .int .u8 5, .int .u8 10, .int .u8 9] t frozen
      | o => o).modify 2 fun
      | .cells _ t frozen => .cells #[.int .u8 0, .int .u8 1, .int .u8 56, .int .u8 2, .int .u8 57, .int .u8 49, .int .u8 28, .int .u8 3, .int .u8 61, .int .u8 58, .int .u8 42, .int .u8 50, .int .u8 38, .int .u8 29, .int .u8 17, .int .u8 4, .int .u8 62, .int .u8 47, .int .u8 59, .int .u8 36, .int .u8 45, .int .u8 43, .int .u8 51, .int .u8 22, .int .u8 53, .int .u8 39, .int .u8 33, .int .u8 30, .int .u8 24, .int .u8 18, .int .u8 12, .int .u8 5, .int .u8 63, .int .u8 55, .int .u8 48, .int .u8 27, .int .u8 60, .int .u8 41, .int .u8 37, .int .u8 16, .int .u8 46, .int .u8 35, .int .u8 44, .int .u8 21, .int .u8 52, .int .u8 32, .int .u8 23, .int .u8 11, .int .u8 54, .int .u8 26, .int .u8 40, .int .u8 15, .int .u8 34, .int .u8 20, .int .u8 31, .int .u8 10, .int .u8 25, .int .u8 14, .int .u8 19, .int .u8 9, .int .u8 13, .int .u8 8, .int .u8 7, .int .u8 6] t frozen
      | o => o).modify 1 fun
      | .cells _ t frozen => .cells #[.int .u64 1, .int .u64 10, .int .u64 100, .int .u64 1000, .int .u64 10000, .int .u64 100000, .int .u64 1000000, .int .u64 10000000, .int .u64 100000000, .int .u64 1000000000, .int .u64 10000000000, .int .u64 100000000000, .int .u64 1000000000000, .int .u64 10000000000000, .int .u64 100000000000000, .int .u64 1000000000000000, .int .u64 10000000000000000, .int .u64 100000000000000000, .int .u64 1000000000000000000, .int .u64 10000000000000000000] t frozen
      | o => o) } : World).forCall (fun _ _ => 0) ⟨#[], #[.slice none 0 0], []⟩).memory :=
  laidMet_of_run' 8 (by kernel_rfl) (by kernel_rfl)
theorem reads (os : Os) {H : Type} (enc : TypeId × Value → H) : ∃ places, DataW.whole enc Tryd.prog (({ World.holding Tryd.prog os ⟨#[], #[], []⟩ with heap := ((((World.holding Tryd.prog os ⟨#[], #[], []⟩).heap.modify 0 fun
      | .cells _ t frozen => .cells #[.int .u8 0, .int .u8 1, .int .u8 28, .int .u8 2, .int .u8 29, .int .u8 14, .int .u8 24, .int .u8 3, .int .u8 30, .int .u8 22, .int .u8 20, .int .u8 15, .int .u8 25, .int .u8 17, .int .u8 4, .int .u8 8, .int .u8 31, .int .u8 27, .int .u8 13, .int .u8 23, .int .u8 21, .int .u8 19, .int .u8 16, .int .u8 7, .int .u8 26, .int .u8 12, .int .u8 18, .int .u8 6, .int .u8 11, .int .u8 5, .int .u8 10, .int .u8 9] t frozen
      | o => o).modify 2 fun
      | .cells _ t frozen => .cells #[.int .u8 0, .int .u8 1, .int .u8 56, .int .u8 2, .int .u8 57, .int .u8 49, .int .u8 28, .int .u8 3, .int .u8 61, .int .u8 58, .int .u8 42, .int .u8 50, .int .u8 38, .int .u8 29, .int .u8 17, .int .u8 4, .int .u8 62, .int .u8 47, .int .u8 59, .int .u8 36, .int .u8 45, .int .u8 43, .int .u8 51, .int .u8 22, .int .u8 53, .int .u8 39, .int .u8 33, .int .u8 30, .int .u8 24, .int .u8 18, .int .u8 12, .int .u8 5, .int .u8 63, .int .u8 55, .int .u8 48, .int .u8 27, .int .u8 60, .int .u8 41, .int .u8 37, .int .u8 16, .int .u8 46, .int .u8 35, .int .u8 44, .int .u8 21, .int .u8 52, .int .u8 32, .int .u8 23, .int .u8 11, .int .u8 54, .int .u8 26, .int .u8 40, .int .u8 15, .int .u8 34, .int .u8 20, .int .u8 31, .int .u8 10, .int .u8 25, .int .u8 14, .int .u8 19, .int .u8 9, .int .u8 13, .int .u8 8, .int .u8 7, .int .u8 6] t frozen
      | o => o).modify 1 fun
      | .cells _ t frozen => .cells #[.int .u64 1, .int .u64 10, .int .u64 100, .int .u64 1000, .int .u64 10000, .int .u64 100000, .int .u64 1000000, .int .u64 10000000, .int .u64 100000000, .int .u64 1000000000, .int .u64 10000000000, .int .u64 100000000000, .int .u64 1000000000000, .int .u64 10000000000000, .int .u64 100000000000000, .int .u64 1000000000000000, .int .u64 10000000000000000, .int .u64 100000000000000000, .int .u64 1000000000000000000, .int .u64 10000000000000000000] t frozen
      | o => o) } : World).forCall (fun _ _ => 0) ⟨#[], #[.slice none 0 0], []⟩).memory Tryd.f3.params.toList Rows.fnOccSpec.vars false (#[.slice none 0 0] : Array Value).toList 8 = some ([.nil], [], places) :=
  ⟨[], by kernel_rfl⟩

set_option maxRecDepth 100000 in
theorem lifted (os : Os) (started : os.Started) (H : Type) (enc : TypeId × Value → H) (F : Stop.Interp) :
    ReturnsInHanded {} Tryd.checked os 3 .any ((OpenSpec.ofChange Rows.fnOccSpec).preRow enc Tryd.prog Tryd.f3 Rows.fnOccRow.domain false Rows.fnOccRow.laid) (((OpenSpec.ofChange Rows.fnOccSpec).at F).post enc Tryd.prog Tryd.f3 false true false false) := by
  obtain ⟨places, hx⟩ := reads os enc
  refine returnsInHanded_of_row (C := Tryd.checked) (s := OpenSpec.ofChange Rows.fnOccSpec) own started (by kernel_rfl) Tryd.func3
    (witness_row_at (enc := enc) (C := Tryd.checked) false ({ World.holding Tryd.prog os ⟨#[], #[], []⟩ with heap := ((((World.holding Tryd.prog os ⟨#[], #[], []⟩).heap.modify 0 fun
      | .cells _ t frozen => .cells #[.int .u8 0, .int .u8 1, .int .u8 28, .int .u8 2, .int .u8 29, .int .u8 14, .int .u8 24, .int .u8 3, .int .u8 30, .int .u8 22, .int .u8 20, .int .u8 15, .int .u8 25, .int .u8 17, .int .u8 4, .int .u8 8, .int .u8 31, .int .u8 27, .int .u8 13, .int .u8 23, .int .u8 21, .int .u8 19, .int .u8 16, .int .u8 7, .int .u8 26, .int .u8 12, .int .u8 18, .int .u8 6, .int .u8 11, .int .u8 5, .int .u8 10, .int .u8 9] t frozen
      | o => o).modify 2 fun
      | .cells _ t frozen => .cells #[.int .u8 0, .int .u8 1, .int .u8 56, .int .u8 2, .int .u8 57, .int .u8 49, .int .u8 28, .int .u8 3, .int .u8 61, .int .u8 58, .int .u8 42, .int .u8 50, .int .u8 38, .int .u8 29, .int .u8 17, .int .u8 4, .int .u8 62, .int .u8 47, .int .u8 59, .int .u8 36, .int .u8 45, .int .u8 43, .int .u8 51, .int .u8 22, .int .u8 53, .int .u8 39, .int .u8 33, .int .u8 30, .int .u8 24, .int .u8 18, .int .u8 12, .int .u8 5, .int .u8 63, .int .u8 55, .int .u8 48, .int .u8 27, .int .u8 60, .int .u8 41, .int .u8 37, .int .u8 16, .int .u8 46, .int .u8 35, .int .u8 44, .int .u8 21, .int .u8 52, .int .u8 32, .int .u8 23, .int .u8 11, .int .u8 54, .int .u8 26, .int .u8 40, .int .u8 15, .int .u8 34, .int .u8 20, .int .u8 31, .int .u8 10, .int .u8 25, .int .u8 14, .int .u8 19, .int .u8 9, .int .u8 13, .int .u8 8, .int .u8 7, .int .u8 6] t frozen
      | o => o).modify 1 fun
      | .cells _ t frozen => .cells #[.int .u64 1, .int .u64 10, .int .u64 100, .int .u64 1000, .int .u64 10000, .int .u64 100000, .int .u64 1000000, .int .u64 10000000, .int .u64 100000000, .int .u64 1000000000, .int .u64 10000000000, .int .u64 100000000000, .int .u64 1000000000000, .int .u64 10000000000000, .int .u64 100000000000000, .int .u64 1000000000000000, .int .u64 10000000000000000, .int .u64 100000000000000000, .int .u64 1000000000000000000, .int .u64 10000000000000000000] t frozen
      | o => o) } : World) #[.slice none 0 0] rfl (by kernel_rfl) (by kernel_rfl) (by kernel_rfl)
      (OpenSpec.preRow_of_cond 8 hx (by kernel_rfl) (fun k hk => by cases hk) (by kernel_rfl) (laid_met os))) ?_
  intro W base args ds gs before hval hW _ _ _ hL _ _
  exact contract H enc W base args ds gs before hval hW hL

theorem said : Rows.FnOccSaid :=
  OpenClaim.holds_of_cond 3 Tryd.f3 rfl rfl rfl rfl rfl rfl rfl ⟨rfl, rfl, rfl, rfl, rfl⟩ rfl rfl rfl rfl rfl (by kernel_rfl) Tryd.func3 (by kernel_rfl)
    (of_decide_eq_true (by kernel_rfl)) (by unfold Func.isWrapper; first | (rw [if_pos (by decide +kernel)]; kernel_rfl) | (rw [if_neg (by decide +kernel)]; exact ⟨rfl, rfl⟩))
    (fun os started H enc _ F => by rw [OpenClaim.pre_eq_preRow]; exact lifted os started H enc F)

theorem plain (f : FuncId) (fn : Func) (hf : Tryd.pinned.checked.prog.funcNamed "loop.example/bellman/laws.FnOcc" = some f) (hfn : Tryd.pinned.checked.prog.funcs[f]? = some fn) :
    false = Tryd.pinned.checked.prog.looks [] ∧ ∀ (j : Nat) t, fn.params[j]? = some t → Tryd.pinned.checked.prog.wantsStandIn t = false := by
  obtain rfl : f = 3 := Option.some.inj ((show Tryd.prog.funcNamed "loop.example/bellman/laws.FnOcc" = some 3 by kernel_rfl).symm.trans hf) |>.symm
  obtain rfl : fn = Tryd.f3 := (Option.some.inj (Tryd.func3.symm.trans hfn)).symm
  refine ⟨by kernel_rfl, fun j t ht => ?_⟩
  rw [Tryd.params3] at ht
  have hm := Array.mem_of_getElem? ht
  simp only [List.mem_toArray, List.mem_cons, List.not_mem_nil, or_false] at hm
  rcases hm with rfl
  · exact (show Tryd.prog.wantsStandIn 22 = false by kernel_rfl)

theorem card : Rows.FnOccCardSaid :=
  Claim7.holds_tied_plain_at .later [] _ _ _ _ said (fun _ h => by cases h) (by kernel_rfl) (fun _ h => by cases h) fnOcc_row_tie rfl ⟨rfl, rfl⟩ (by kernel_rfl) rfl plain (by kernel_rfl)
end Go.Proofs.YtjaneedmhekheaaDoor.fnOcc
namespace Go.Proofs.YtjaneedmhekheaaDoor
theorem fnOcc_holds : Rows.FnOccCardSaid := fnOcc.card
#print axioms fnOcc_holds
end Go.Proofs.YtjaneedmhekheaaDoor

