/- At everything that is looked for the program's GraphOf answers as the specification's, in memory of its own; the argument reads afterwards as before. The error that the program's panics bear is as its text lays it. -/
import Derived.Test.YtlopjljmnadhcaaDoorExBox
import Derived.Test.YtlopjljmnadhcaaDoorPlanF
import Derived.Test.YtlopjljmnadhcaaDoorPlanM
import Derived.Test.YtlopjljmnadhcaaDoorExImpl
import Derived.Test.YtlopjljmnadhcaaDoorCards
import Derived.Test.YtlopjljmnadhcaaDoorTie
import Derived.Deep.DeepHandedRow
import Derived.LaidLaws
import Derived.MakeChecks
import Derived.Stop.ErrReads
import Derived.RowKitTokens
namespace Go.Proofs.YtlopjljmnadhcaaDoor.fnExactGraphOf
open Go.ChangeShapes Go.WideShapes Go.ChangeAt Go.RowKit
set_option linter.unusedVariables false
set_option maxRecDepth 4000

theorem box4_touch {w w' : World} {A : Nat} {v0 v1 v2 v3 : Value} {S : List Nat} (h : Box4 w A v0 v1 v2 v3) (ht : Touch S w w') (hn : A ∉ S) : Box4 w' A v0 v1 v2 v3 := by
  have hl := h.lt
  obtain ⟨t, f, h⟩ := h
  exact ⟨t, f, (ht.block A hl hn).trans h⟩
theorem widP_len : ∀ (S : Pl), 4 * S.length ≤ widP S
  | [] => by simp [widP]
  | x :: r => by have := widP_len r; simp only [List.length_cons, widP]; omega

set_option maxHeartbeats 2000000 in
theorem walk (kd sy n : Int) (a : Option Addr) (cap : Nat) (F : Fo) (m : Int) (w : World) (t : TypeId) (v : Value) (h : Slc w a F) (_ : (Lit.int .i64 m).wf = true) (hE : ErrAt w t v) :
    Calls Tryd.prog 3 #[.agg #[.int .i64 kd, .int .i64 sy, .int .i64 n, .slice a F.len cap], .int .i64 m] w fun e w' => e = .returned (.bool true) ∧ Below w.heap.size w w' := by
  have hA0 := box_new w (.int .i64 kd) (.int .i64 sy) (.int .i64 n) (.slice a F.len cap) 24
  have b00 := below_new w (.cells #[.int .i64 kd, .int .i64 sy, .int .i64 n, .slice a F.len cap] 24)
  obtain ⟨w0, hw0⟩ : ∃ w0, w.alloc (.cells #[.int .i64 kd, .int .i64 sy, .int .i64 n, .slice a F.len cap] 24) = w0 := ⟨_, rfl⟩
  rw [hw0] at hA0 b00
  by_cases hbig : F.size ≤ 1048576
  · have hif : szLeft 1048576 F.size = 1048576 - (F.size : Int) := if_neg (by omega)
    have hge : ¬ (1048576 - (F.size : Int) < 0) := by omega
    obtain ⟨p0, p1, p2, p3⟩ := hA0.cells
    go_enter Tryd.func3, Tryd.ntmps3
    go_wp2_with fail
    refine (szEx_any kd sy n a cap F _ _ (h.below b00) (by omega) (by omega)).mono ?_
    rintro e w1 ⟨rfl, hb1⟩
    rw [hif]
    clear hif p0 p1 p2 p3
    have b01 := b00.trans (hb1.mono b00.size)
    have hA1 := hA0.below hb1
    obtain ⟨p0, p1, p2, p3⟩ := hA1.cells
    go_wp2_with fail
    refine (toEx_any kd sy n a cap F _ (h.below b01) hbig).mono ?_
    rintro e w2 ⟨b2, S2, rfl, hr2, hb2⟩
    have b02 := b01.trans (hb2.mono b01.size)
    clear p0 p1 p2 p3
    go_wp2_with fail
    refine (specGraphOf_any kd sy n _ _ F m _ hr2.slc hbig).mono ?_
    rintro e w3 ⟨vw, cw, LW, rfl, hLW, hW3, hb3⟩
    have b03 := b02.trans (hb3.mono b02.size)
    have hA3 := (hA1.below hb2).below hb3
    obtain ⟨p0, p1, p2, p3⟩ := hA3.cells
    obtain ⟨MO, hMO⟩ : ∃ MO, gMo kd sy n F m = MO := ⟨_, rfl⟩
    rw [hMO]
    obtain ⟨u3, hu3⟩ : ∃ u3, w3.alloc (.cells #[.int .i64 MO, .slice vw LW.length cw, .int .i64 0, .int .i64 0, .bool false] 28) = u3 := ⟨_, rfl⟩
    have hP3 := gb_new w3 #[.int .i64 MO, .slice vw LW.length cw, .int .i64 0, .int .i64 0, .bool false] 28
    have hc3 := gBelow_new w3 (.cells #[.int .i64 MO, .slice vw LW.length cw, .int .i64 0, .int .i64 0, .bool false] 28)
    have z3 : (w3.alloc (.cells #[.int .i64 MO, .slice vw LW.length cw, .int .i64 0, .int .i64 0, .bool false] 28)).heap.size = w3.heap.size + 1 := by simp
    have HU3 : Hid (_ = u3) := hu3
    clear hu3
    have b03u := b03.trans (hc3.mono b03.size)
    have hA3u := hA3.below hc3
    clear p0 p1 p2 p3
    obtain ⟨p0, p1, p2, p3⟩ := hA3u.cells
    go_wp2_with fail
    rw [HU3.out]
    rw [HU3.out] at hP3 hc3 z3 b03u hA3u
    refine (toEx_any kd sy n a cap F _ (h.below b03u) hbig).mono ?_
    rintro e w4 ⟨b4, S4, rfl, hr4, hb4⟩
    have b04 := b03u.trans (hb4.mono b03u.size)
    have hA4 := hA3u.below hb4
    have hP4 := hP3.below hb4
    clear p0 p1 p2 p3
    obtain ⟨w5, hw5⟩ : ∃ w5, w4.alloc (.cells #[.int .i64 kd, .int .i64 sy, .int .i64 n, .slice (some ⟨b4, 0, none⟩) F.len F.len] 32) = w5 := ⟨_, rfl⟩
    have hX5 := box_new w4 (.int .i64 kd) (.int .i64 sy) (.int .i64 n) (.slice (some ⟨b4, 0, none⟩) F.len F.len) 32
    have hb5 := below_new w4 (.cells #[.int .i64 kd, .int .i64 sy, .int .i64 n, .slice (some ⟨b4, 0, none⟩) F.len F.len] 32)
    rw [hw5] at hX5 hb5
    have hA5 := hA4.below hb5
    have hP5 := hP4.below hb5
    have b05 := b04.trans (hb5.mono b04.size)
    obtain ⟨q0, q1, q2, q3⟩ := hX5.cells
    go_wp2_with fail
    refine (implGraphOf_any kd sy n _ _ F m _ t v (hE.below b05) (hr4.slc.below hb5)).mono ?_
    rintro e w6 ⟨vg, cg, LG, rfl, hLG, hG6, hb6⟩
    rw [hMO]
    clear q0 q1 q2 q3
    obtain ⟨u6, hu6⟩ : ∃ u6, w6.alloc (.cells #[.int .i64 MO, .slice vg LG.length cg, .int .i64 0, .int .i64 0, .bool false] 28) = u6 := ⟨_, rfl⟩
    have hQ6 := gb_new w6 #[.int .i64 MO, .slice vg LG.length cg, .int .i64 0, .int .i64 0, .bool false] 28
    have hc6 := gBelow_new w6 (.cells #[.int .i64 MO, .slice vg LG.length cg, .int .i64 0, .int .i64 0, .bool false] 28)
    have hP6 := (hP5.below hb6).below hc6
    have hX6 := (hX5.below hb6).below hc6
    have hA6 := (hA5.below hb6).below hc6
    have b06 := b05.trans (hb6.mono b05.size)
    have b06 := b06.trans (hc6.mono b06.size)
    have hGu := hG6.gcs.below hc6
    have hs3 := hc3.trans (hb4.mono hc3.size)
    have hs3 := hs3.trans (hb5.mono hs3.size)
    have hs3 := hs3.trans (hb6.mono hs3.size)
    have hs3 := hs3.trans (hc6.mono hs3.size)
    have hWu := hW3.gcs.below hs3
    have q0 := hP6.at 0
    have q1 := hP6.at 1
    have q2 := hP6.at 2
    have q3 := hP6.at 3
    have q4 := hP6.at 4
    have r0 := hQ6.at 0
    have r1 := hQ6.at 1
    have r2 := hQ6.at 2
    have r3 := hQ6.at 3
    have r4 := hQ6.at 4
    have HU6 : Hid (_ = u6) := hu6
    clear hu6
    have heq : gcsEqB MO LG MO LW = true := (gcsEqB_iff _ _ _ _).2 ⟨rfl, hLG.trans hLW.symm⟩
    have hcmp := fun v => eqGraph_gc MO vg cg LG MO vw cw LW v
    unfold grC at hcmp
    rw [heq] at hcmp
    clear hw0 hw5
    go_wp2_with fail
    refine (hcmp _ hGu hWu).mono ?_
    rintro e w7 ⟨rfl, hb7⟩
    have b07 := b06.trans (hb7.mono b06.size)
    have hX7 := hX6.below hb7
    have hA7 := hA6.below hb7
    have hP7 := hP6.below hb7
    have hQ7 := hQ6.below hb7
    have b46 := hb5.trans (hb6.mono hb5.size)
    have b46 := b46.trans (hc6.mono b46.size)
    have b47 := b46.trans (hb7.mono b46.size)
    clear q0 q1 q2 q3 q4 r0 r1 r2 r3 r4
    obtain ⟨p0, p1, p2, p3⟩ := hA7.cells
    obtain ⟨q0, q1, q2, q3⟩ := hX7.cells
    have hX7d : Box4 w7.drew w4.heap.size (.int .i64 kd) (.int .i64 sy) (.int .i64 n) (.slice (some ⟨b4, 0, none⟩) F.len F.len) := hX7
    have hA7d : Box4 w7.drew w.heap.size (.int .i64 kd) (.int .i64 sy) (.int .i64 n) (.slice a F.len cap) := hA7
    have b47d := b47.drew
    have b07d := b07.drew
    have hself := eqX_self kd sy n F
    go_wp2_with fail
    go_region_held (fun v => (v.cell? ⟨w.heap.size, 0, none⟩ = some (.int .i64 kd) ∧ v.cell? ⟨w.heap.size, 1, none⟩ = some (.int .i64 sy) ∧ v.cell? ⟨w.heap.size, 2, none⟩ = some (.int .i64 n) ∧ v.cell? ⟨w.heap.size, 3, none⟩ = some (.slice a F.len cap)) ∧ (v.cell? ⟨w4.heap.size, 0, none⟩ = some (.int .i64 kd) ∧ v.cell? ⟨w4.heap.size, 1, none⟩ = some (.int .i64 sy) ∧ v.cell? ⟨w4.heap.size, 2, none⟩ = some (.int .i64 n) ∧ v.cell? ⟨w4.heap.size, 3, none⟩ = some (.slice (some ⟨b4, 0, none⟩) F.len F.len))) (go_keep)
      (first
      | (go_at_call 7; refine (toEx_any kd sy n a cap F _ (h.below b07d) hbig).mono ?_; rintro e w8 ⟨b8, S8, rfl, hr8, hb8⟩; obtain ⟨r0, r1, r2, r3⟩ := (hX7d.below hb8).cells; obtain ⟨s0, s1, s2, s3⟩ := (hA7d.below hb8).cells)
      | (go_at_call 10; refine (eqEx_any kd sy n _ _ F kd sy n _ _ F _ (hr4.slc.below (b47d.trans (hb8.mono b47d.size))) hr8.slc).mono ?_; rintro e w9 ⟨rfl, hb9⟩; obtain ⟨t0, t1, t2, t3⟩ := ((hX7d.below hb8).below hb9).cells; obtain ⟨j0, j1, j2, j3⟩ := ((hA7d.below hb8).below hb9).cells))
    have b79 : Below w7.heap.size w7 w9 := (Below.refl w7.heap.size w7).drew.trans (hb8.trans (hb9.mono hb8.size))
    have b09 := b07.trans (b79.mono b07.size)
    have b49 := b47.trans (b79.mono b47.size)
    have hA9 := hA7.below b79
    have hX9 := hX7.below b79
    have hP9 := hP7.below b79
    have hQ9 := hQ7.below b79
    clear p0 p1 p2 p3 q0 q1 q2 q3
    obtain ⟨T, hT4, hTn, hTb⟩ := hr4.at
    have hT9 := hT4.below b49
    obtain ⟨q0, q1, q2, q3⟩ := hX9.cells
    go_wp2_with fail
    refine (markEx_any kd sy n _ _ F T 1 _ hT9 hTn (by omega) (by omega) hbig hr4.len).mono ?_
    rintro e w10 ⟨rfl, hT10, ht10⟩
    have hs9 := hs3.trans (hb7.mono hs3.size)
    have hs9 := hs9.trans (b79.mono hs9.size)
    have b69 := hc6.trans (hb7.mono hc6.size)
    have b69 := b69.trans (b79.mono b69.size)
    have hW9 := hW3.below hs9
    have hG9 := hG6.below b69
    have s3 : u3.heap.size = w3.heap.size + 1 := z3
    have s34 := hb4.size
    have s45 := hb5.size
    have s56 := hb6.size
    have s02 := b02.size
    have s23 := hb3.size
    have hTw : ∀ x ∈ T, w.heap.size ≤ x := fun x hx => by have := (hTb x hx).1; omega
    have b910 : Below w.heap.size w9 w10 := ht10.below hTw b09.size
    have b010 := b09.trans b910
    have hA10 := box4_touch hA9 ht10 (fun e => by have := (hTb _ e).1; have := hA3.lt; omega)
    have hW10 := hW9.keep ht10.size (fun x hx => ht10.block x (hW9.blk_lt hx).2 (fun e => by have := (hTb _ e).1; have := (hW3.blk_lt hx).2; omega))
    have hG10 := hG9.keep ht10.size (fun x hx => ht10.block x (hG9.blk_lt hx).2 (fun e => by have := (hTb _ e).2; have := (hG6.blk_lt hx).1; omega))
    have hP10 := hP9.of (ht10.block _ hP9.lt (fun e => by have := (hTb _ e).1; omega))
    have hQ10 := hQ9.of (ht10.block _ hQ9.lt (fun e => by have := (hTb _ e).2; omega))
    clear q0 q1 q2 q3
    have hk1 : ¬ ((1 : Int) + 3 * (F.size : Int) < 0) := by omega
    have hkb : decide ((1 : Int) + 3 * (F.size : Int) < 0) = false := by simp; omega
    obtain ⟨K, hK⟩ : ∃ K : Int, 1 + 3 * (F.size : Int) = K := ⟨_, rfl⟩
    rw [hK] at hk1 hkb
    rw [hK]
    clear hK
    have q0 := hP10.at 0
    have q1 := hP10.at 1
    have q2 := hP10.at 2
    have q3 := hP10.at 3
    have q4 := hP10.at 4
    have r0 := hQ10.at 0
    have r1 := hQ10.at 1
    have r2 := hQ10.at 2
    have r3 := hQ10.at 3
    have r4 := hQ10.at 4
    go_wp2_with fail
    refine (hcmp _ hG10.gcs hW10.gcs).mono ?_
    rintro e w11 ⟨rfl, hb11⟩
    have b011 := b010.trans (hb11.mono b010.size)
    have hA11 := hA10.below hb11
    have hW11 := hW10.below hb11
    have hG11 := hG10.below hb11
    have hP11 := hP10.below hb11
    have hQ11 := hQ10.below hb11
    clear q0 q1 q2 q3 q4 r0 r1 r2 r3 r4
    have q0 := hQ11.at 0
    have q1 := hQ11.at 1
    have q2 := hQ11.at 2
    have q3 := hQ11.at 3
    have q4 := hQ11.at 4
    have hwl : widL (LG.map GC.e) = widP (gPl kd sy n F m) := widL_of _ _ hLG
    have hwp := widP_gPl kd sy n F m
    have hll : LG.length = (gPl kd sy n F m).length := by simpa using congrArg List.length hLG
    have hlp := widP_len (gPl kd sy n F m)
    have hkids : ∀ x ∈ LG.map GC.e, x.ks.length ≤ 1048576 := by
      intro x hx
      obtain ⟨y, hy, rfl⟩ := List.mem_map.1 hx
      have hy2 : y.g ∈ LG.map (·.g) := List.mem_map.2 ⟨y, hy, rfl⟩
      rw [hLG] at hy2
      obtain ⟨z, hz, hzy⟩ := List.mem_map.1 hy2
      have := gPl_kids kd sy n F m z hz
      show y.g.ks.length ≤ 1048576
      rw [← hzy]; omega
    have hmk := markGraph_ge MO w5.heap.size w6.heap.size vg LG.length cg (LG.map GC.e) 1 w11 hG11.gesAt (by simp)
      (fun hl b e => (hG6.blk_lt (b := b) (.inl (by rw [e]; rfl))).2)
      (fun i x hx p hp => by
        obtain ⟨y, hy, rfl⟩ := List.mem_map.1 (List.mem_of_getElem? hx)
        exact (hG6.blk_lt (b := p.block) (.inr ⟨y, hy, p, hp, rfl⟩)).2)
      (by omega) (by omega) (by omega) hkids (by simp; omega)
    have hhd := fun u hu => heldGraph_ge MO w5.heap.size vg LG.length cg (LG.map GC.e) 1 u hu (by simp) (by omega) (by omega) hkids (by simp; omega)
    unfold grC at hmk hhd
    obtain ⟨M, hM⟩ : ∃ M : Int, 1 + (widL (LG.map GC.e) : Int) = M := ⟨_, rfl⟩
    rw [hM] at hmk hhd
    have hM1 : ¬ (M < 0) := by omega
    have hMb : decide (M < 0) = false := by simp; omega
    have hMne : (M != M) = false := by simp
    clear hM hwl hwp hll hlp hkids
    go_wp2_with fail
    refine hmk.mono ?_
    rintro e w12 ⟨rfl, hE12, ht12⟩
    have s05 := b05.size
    have s612 : w6.heap.size < w12.heap.size := by have := hQ11.lt; have := ht12.size; omega
    have b1112 := ht12.below (B := w.heap.size) (fun b hb => by have := hb.1; omega) b011.size
    have b012 := b011.trans b1112
    have hA12 : Box4 w12 w.heap.size (.int .i64 kd) (.int .i64 sy) (.int .i64 n) (.slice a F.len cap) := by
      have hl := hA11.lt
      have h5 := hA5.lt
      obtain ⟨t', f', hA⟩ := hA11
      exact ⟨t', f', (ht12.same _ hl (fun hx => by have := hx.1; have := hA4.lt; omega)).trans hA⟩
    have hP12 := hP11.of (ht12.same _ hP11.lt (fun hx => by have := hx.1; omega))
    have hQ12 := hQ11.of (ht12.same _ hQ11.lt (fun hx => by have := hx.2; omega))
    have hW12 := hW11.keep ht12.size (fun x hx => ht12.same x (hW11.blk_lt hx).2 (fun hx2 => by have := hx2.1; have := (hW3.blk_lt hx).2; omega))
    clear q0 q1 q2 q3 q4
    have q0 := hQ12.at 0
    have q1 := hQ12.at 1
    have q2 := hQ12.at 2
    have q3 := hQ12.at 3
    have q4 := hQ12.at 4
    go_wp2_with fail
    refine (hhd _ hE12).mono ?_
    rintro e w13 ⟨rfl, hb13⟩
    have b013 := b012.trans (hb13.mono b012.size)
    have hA13 := hA12.below hb13
    have hP13 := hP12.below hb13
    have hQ13 := hQ12.below hb13
    have hW13 := hW12.below hb13
    have hE13 := hE12.keep hb13
    clear q0 q1 q2 q3 q4
    obtain ⟨p0, p1, p2, p3⟩ := hA13.cells
    go_wp2_with fail
    refine (toEx_any kd sy n a cap F _ (h.below b013) hbig).mono ?_
    rintro e w14 ⟨b14, S14, rfl, hr14, hb14⟩
    have b014 := b013.trans (hb14.mono b013.size)
    clear p0 p1 p2 p3
    go_wp2_with fail
    refine (implGraphOf_any kd sy n _ _ F m _ t v (hE.below b014) hr14.slc).mono ?_
    rintro e w15 ⟨vh, ch, LH, rfl, hLH, hH15, hb15⟩
    rw [hMO]
    have b015 := b014.trans (hb15.mono b014.size)
    have b135 := hb14.trans (hb15.mono hb14.size)
    have hP15 := hP13.below b135
    have hQ15 := hQ13.below b135
    have hW15 := hW13.below b135
    have hE15 := hE13.keep b135
    obtain ⟨u15, hu15⟩ : ∃ u15, w15.alloc (.cells #[.int .i64 MO, .slice vh LH.length ch, .int .i64 0, .int .i64 0, .bool false] 28) = u15 := ⟨_, rfl⟩
    have hR15 := gb_new w15 #[.int .i64 MO, .slice vh LH.length ch, .int .i64 0, .int .i64 0, .bool false] 28
    have hc15 := gBelow_new w15 (.cells #[.int .i64 MO, .slice vh LH.length ch, .int .i64 0, .int .i64 0, .bool false] 28)
    have hPu := hP15.below hc15
    have hQu := hQ15.below hc15
    have hWu := hW15.below hc15
    have hHu := hH15.below hc15
    have hEu := hE15.keep hc15
    have b0u := b015.trans (hc15.mono b015.size)
    have q0 := hPu.at 0
    have q1 := hPu.at 1
    have q2 := hPu.at 2
    have q3 := hPu.at 3
    have q4 := hPu.at 4
    have r0 := hR15.at 0
    have r1 := hR15.at 1
    have r2 := hR15.at 2
    have r3 := hR15.at 3
    have r4 := hR15.at 4
    have HU15 : Hid (_ = u15) := hu15
    clear hu15
    have heq2 : gcsEqB MO LH MO LW = true := (gcsEqB_iff _ _ _ _).2 ⟨rfl, hLH.trans hLW.symm⟩
    have hcmp2 := fun v => eqGraph_gc MO vh ch LH MO vw cw LW v
    unfold grC at hcmp2
    rw [heq2] at hcmp2
    go_wp2_with fail
    refine (hcmp2 _ hHu.gcs hWu.gcs).mono ?_
    rintro e w16 ⟨rfl, hb16⟩
    have b016 := b0u.trans (hb16.mono b0u.size)
    have hQ16 := hQu.below hb16
    have hE16 := hEu.keep hb16
    clear q0 q1 q2 q3 q4 r0 r1 r2 r3 r4
    have q0 := hQ16.at 0
    have q1 := hQ16.at 1
    have q2 := hQ16.at 2
    have q3 := hQ16.at 3
    have q4 := hQ16.at 4
    go_wp2_with fail
    refine (hhd _ hE16).mono ?_
    rintro e w17 ⟨rfl, hb17⟩
    go_wp2
    go_ret
    exact ⟨rfl, b016.trans (hb17.mono b016.size)⟩
  · have hif : szLeft 1048576 F.size = -1 := if_pos (by omega)
    obtain ⟨p0, p1, p2, p3⟩ := hA0.cells
    go_enter Tryd.func3, Tryd.ntmps3
    go_wp2_with fail
    refine (szEx_any kd sy n a cap F _ _ (h.below b00) (by omega) (by omega)).mono ?_
    rintro e w1 ⟨rfl, hb1⟩
    rw [hif]
    clear hif
    go_wp2
    go_ret
    exact ⟨rfl, b00.trans (hb1.mono b00.size)⟩

theorem globErr : Tryd.prog.globalNamed "loop.example/bellman/impl.errExNone" = some 0 := by kernel_rfl
theorem typeErr : (Tryd.prog.globals[0]?).map (·.type) = some 106 := by kernel_rfl
theorem cellsErr : Tryd.prog.cellsOf 157 = 1 := by kernel_rfl
theorem cellsStr : Tryd.prog.cellsOf 9 = 1 := by kernel_rfl
theorem starErr : "*" ++ "errors.errorString" = "*errors.errorString" := by decide
theorem rowErr (u : TypeId) (h : Tryd.prog.typeName? 3 u = some "*errors.errorString") : u = 121 :=
  typeName_ptr_named (nm := "errors.errorString") (by rw [starErr]; kernel_rfl) (by kernel_rfl) (by decide) u (by rw [starErr]; exact h)
/-- The sentinel is an interface value that holds something. -/
theorem sentinel {W : World} (h : laidMetH Tryd.prog Rows.fnExactGraphOfRow.laid W) : ∃ a, W.var? Tryd.prog "loop.example/bellman/impl.errExNone" = some #[.iface 121 (.pointer (some a))] := by
  have h1 := h.filter (fun x => x.1 == "loop.example/bellman/impl.errExNone")
  have e : Rows.fnExactGraphOfRow.laid.filter (fun x => x.1 == "loop.example/bellman/impl.errExNone") = [("loop.example/bellman/impl.errExNone", Rows.laid_loop_example_bellman_impl_errExNone)] := by kernel_rfl
  rw [e, Go.MakeChecks.laidMetH_plain _ _ _ (by kernel_rfl)] at h1
  obtain ⟨ps, ⟨g0, t0, cs0, f0, p0, q0, hg0, ht0, hv0, hd0, hq, e0⟩, hnd, hrows⟩ := h1
  obtain rfl := Option.some.inj (globErr.symm.trans hg0)
  obtain rfl := Option.some.inj (typeErr.symm.trans ht0)
  subst e0
  obtain ⟨l0⟩ := cs0
  have ok0 : ∀ u v, l0 = [.iface u v] → Value.okWide Tryd.prog W .any 0 u v := fun u v e => by
    subst e
    exact (hrows 0 0 (by simp [MemPlace.row])).2 u v (by simpa using World.var?_cell hg0 hv0 0)
  obtain ⟨a0, s0, rfl, _, _, _, _⟩ := errorString_of_trod Tryd.underlying106 rowErr Tryd.underlying121 Tryd.underlying157 rfl rfl Tryd.underlying9 cellsErr cellsStr hd0 ok0
  exact ⟨a0, hv0⟩
theorem errAt {W : World} {a : Addr} (h : W.var? Tryd.prog "loop.example/bellman/impl.errExNone" = some #[.iface 121 (.pointer (some a))]) : ErrAt W 121 (.pointer (some a)) := by
  have := World.var?_cell globErr h 0
  simpa [ErrAt] using this
theorem var_below {W W' : World} {cs : Array Value} (h : W.var? Tryd.prog "loop.example/bellman/impl.errExNone" = some cs) (hb : Below W.heap.size W W') : W'.var? Tryd.prog "loop.example/bellman/impl.errExNone" = some cs := by
  unfold World.var? at h ⊢
  simp only [globErr, Option.bind_some] at h ⊢
  have hlt : 0 < W.heap.size := by
    rcases Nat.lt_or_ge 0 W.heap.size with h' | h'
    · exact h'
    · simp [Array.getElem?_eq_none h'] at h
  rw [hb.block _ hlt]
  exact h
theorem vars_read {H : Type} (enc : TypeId × Value → H) {W : World} {a : Addr} (h0 : W.var? Tryd.prog "loop.example/bellman/impl.errExNone" = some #[.iface 121 (.pointer (some a))]) (sp : Nat → Bool) :
    DataW.TrodVars enc Tryd.prog W sp ["loop.example/bellman/impl.errExNone"] [tok enc (.iface 121 (.pointer (some a)))] [.cell 0 0] :=
  ⟨0, 106, #[.iface 121 (.pointer (some a))], 1, [], [], globErr, typeErr, h0, trod_held Tryd.underlying106 (show IsIface (.iface 121 (.pointer (some a))) from trivial) 0, rfl, rfl⟩

theorem contract (H : Type) (enc : TypeId × Value → H) (W : World) (base : Nat) (args : Array Value) (ds gs : List (DataW H)) (before : List MemPlace)
    (hval : ∀ (j : Nat) t v, Tryd.f3.params[j]? = some t → args[j]? = some v → Value.okWide Tryd.prog W .any base t v)
    (hW : DataW.Whole enc Tryd.prog Tryd.f3.params.toList Rows.fnExactGraphOfSpec.vars false W args.toList ds gs before) (hL : laidMetH Tryd.prog Rows.fnExactGraphOfRow.laid W) :
    Calls Tryd.prog 3 args W fun e W' => ∃ v, e = .returned v ∧ Rows.fnExactGraphOfSpec.post enc Tryd.prog Tryd.f3 false true false false W args v W' := by
  have hW' := hW
  obtain ⟨p, q, hA0, hV0, rfl, hfz, hnd⟩ := hW
  have hA : DataW.TrodAll enc Tryd.prog W 0 (fun _ => true) true Tryd.f3.params.toList args.toList ds p := hA0
  have hV : DataW.TrodVars enc Tryd.prog W (fun _ => true) ["loop.example/bellman/impl.errExNone"] gs q := hV0
  rw [Tryd.params3] at hA hval
  obtain ⟨v0, vs0, d0, ds0, p0, q0, hargs, rfl, rfl, h0, r0⟩ := trodAll_cons hA
  obtain ⟨v1, vs1, d1, ds1, p1, q1, rfl, rfl, rfl, h1, r1⟩ := trodAll_cons r0
  obtain ⟨rfl, rfl, rfl⟩ := trodAll_nil r1
  obtain rfl : args = #[v0, v1] := by cases args; simp_all
  obtain ⟨ea, hva⟩ := sentinel hL
  obtain ⟨rfl, rfl⟩ := hV.unique (vars_read enc hva _)
  have k0 := h0
  have lt0 : ∀ x ∈ p0, x.block < W.heap.size := by obtain ⟨m, hm⟩ := k0; exact DataW.trod_lt m _ _ _ hm
  have k1 := h1
  have lt1 : ∀ x ∈ p1, x.block < W.heap.size := by obtain ⟨m, hm⟩ := k1; exact DataW.trod_lt m _ _ _ hm
  obtain ⟨kd0, sy0, n0, a0, cap0, F0, rfl, e0⟩ := open_ex (hval 0 24 v0 rfl rfl) h0
  obtain ⟨n1, rfl, _, _, wf1⟩ := open_int Tryd.underlying3 (hval 1 3 v1 rfl rfl) h1
  clear hA0 hV0
  refine (walk kd0 sy0 n0 a0 cap0 F0 n1 W 121 (.pointer (some ea)) e0 wf1 (errAt hva)).mono fun e W' ⟨he, bel⟩ => ?_
  subst he
  exact ⟨_, rfl, _, _, _, [], _, [.cell 0 0], hW', trodAll_mk1 (shut_bool Tryd.underlying4 _), (trodAll_cons_mk (Below.trod laidOut (by kernel_rfl) (of_decide_eq_true (by kernel_rfl)) k0 bel lt0) (trodAll_cons_mk (Below.trod laidOut (by kernel_rfl) (of_decide_eq_true (by kernel_rfl)) k1 bel lt1) trodAll_mk0)), vars_read enc (var_below hva bel) _, bel.frame _, fun h => by cases h⟩

noncomputable def low : Nat := (World.holding Tryd.prog default ⟨#[], #[], []⟩).heap.size
theorem laid_met (os : Os) : laidMet Tryd.prog Rows.fnExactGraphOfRow.laid (({ World.holding Tryd.prog os ⟨#[.cells #[.string { data := #[110, 111, 116, 104, 105, 110, 103, 32, 116, 104, 97, 116, 32, 105, 115, 32, 108, 111, 111, 107, 101, 100, 32, 102, 111, 114] }] 157], #[], []⟩ with heap := ((World.holding Tryd.prog os ⟨#[.cells #[.string { data := #[110, 111, 116, 104, 105, 110, 103, 32, 116, 104, 97, 116, 32, 105, 115, 32, 108, 111, 111, 107, 101, 100, 32, 102, 111, 114] }] 157], #[], []⟩).heap.modify 0 fun
      | .cells _ t frozen => .cells #[.iface 121 (.pointer (some ⟨low, 0, none⟩))] t frozen
      | o => o) } : World).forCall (fun _ _ => 0) ⟨#[], #[.agg #[.int .i64 0, .int .i64 0, .int .i64 0, .slice none 0 0], .int .i64 0], []⟩).memory :=
  laidMet_of_run' 8 (by kernel_rfl) (by kernel_rfl)
theorem reads (os : Os) {H : Type} (enc : TypeId × Value → H) : DataW.whole enc Tryd.prog (({ World.holding Tryd.prog os ⟨#[.cells #[.string { data := #[110, 111, 116, 104, 105, 110, 103, 32, 116, 104, 97, 116, 32, 105, 115, 32, 108, 111, 111, 107, 101, 100, 32, 102, 111, 114] }] 157], #[], []⟩ with heap := ((World.holding Tryd.prog os ⟨#[.cells #[.string { data := #[110, 111, 116, 104, 105, 110, 103, 32, 116, 104, 97, 116, 32, 105, 115, 32, 108, 111, 111, 107, 101, 100, 32, 102, 111, 114] }] 157], #[], []⟩).heap.modify 0 fun
      | .cells _ t frozen => .cells #[.iface 121 (.pointer (some ⟨low, 0, none⟩))] t frozen
      | o => o) } : World).forCall (fun _ _ => 0) ⟨#[], #[.agg #[.int .i64 0, .int .i64 0, .int .i64 0, .slice none 0 0], .int .i64 0], []⟩).memory Tryd.f3.params.toList Rows.fnExactGraphOfSpec.vars false (#[.agg #[.int .i64 0, .int .i64 0, .int .i64 0, .slice none 0 0], .int .i64 0] : Array Value).toList 8 = some ([.agg [.lit (.int .i64 0), .lit (.int .i64 0), .lit (.int .i64 0), .nil], .lit (.int .i64 0)], [tok enc (.iface 121 (.pointer (some ⟨low, 0, none⟩)))], [.cell 0 0]) := by kernel_rfl

set_option maxRecDepth 100000 in
theorem lifted (os : Os) (started : os.Started) (H : Type) (enc : TypeId × Value → H) (F : Stop.Interp) :
    ReturnsInHanded {} Tryd.checked os 3 .any ((OpenSpec.ofChange Rows.fnExactGraphOfSpec).preRow enc Tryd.prog Tryd.f3 Rows.fnExactGraphOfRow.domain false Rows.fnExactGraphOfRow.laid) (((OpenSpec.ofChange Rows.fnExactGraphOfSpec).at F).post enc Tryd.prog Tryd.f3 false true false false) := by
  refine returnsInHanded_of_row (C := Tryd.checked) (s := OpenSpec.ofChange Rows.fnExactGraphOfSpec) own started (by kernel_rfl) Tryd.func3
    (witness_row_at (enc := enc) (C := Tryd.checked) false ({ World.holding Tryd.prog os ⟨#[.cells #[.string { data := #[110, 111, 116, 104, 105, 110, 103, 32, 116, 104, 97, 116, 32, 105, 115, 32, 108, 111, 111, 107, 101, 100, 32, 102, 111, 114] }] 157], #[], []⟩ with heap := ((World.holding Tryd.prog os ⟨#[.cells #[.string { data := #[110, 111, 116, 104, 105, 110, 103, 32, 116, 104, 97, 116, 32, 105, 115, 32, 108, 111, 111, 107, 101, 100, 32, 102, 111, 114] }] 157], #[], []⟩).heap.modify 0 fun
      | .cells _ t frozen => .cells #[.iface 121 (.pointer (some ⟨low, 0, none⟩))] t frozen
      | o => o) } : World) #[.agg #[.int .i64 0, .int .i64 0, .int .i64 0, .slice none 0 0], .int .i64 0] rfl (by kernel_rfl) (by kernel_rfl) (by kernel_rfl)
      (OpenSpec.preRow_of_cond 8 (reads os enc) (by kernel_rfl) (fun k hk => by cases hk) (by kernel_rfl) (laid_met os))) ?_
  intro W base args ds gs before hval hW _ _ _ hL hSh _
  exact contract H enc W base args ds gs before hval hW hL

theorem said : Rows.FnExactGraphOfSaid :=
  OpenClaim.holds_of_cond 3 Tryd.f3 rfl rfl rfl rfl rfl rfl rfl ⟨rfl, rfl, rfl, rfl, rfl⟩ rfl rfl rfl rfl rfl (by kernel_rfl) Tryd.func3 (by kernel_rfl)
    (of_decide_eq_true (by kernel_rfl)) (by unfold Func.isWrapper; first | (rw [if_pos (by decide +kernel)]; kernel_rfl) | (rw [if_neg (by decide +kernel)]; exact ⟨rfl, rfl⟩))
    (fun os started H enc _ F => by rw [OpenClaim.pre_eq_preRow]; exact lifted os started H enc F)

theorem plain (f : FuncId) (fn : Func) (hf : Tryd.pinned.checked.prog.funcNamed "loop.example/bellman/laws.FnExactGraphOf" = some f) (hfn : Tryd.pinned.checked.prog.funcs[f]? = some fn) :
    false = Tryd.pinned.checked.prog.looks [] ∧ ∀ (j : Nat) t, fn.params[j]? = some t → Tryd.pinned.checked.prog.wantsStandIn t = false := by
  obtain rfl : f = 3 := Option.some.inj ((show Tryd.prog.funcNamed "loop.example/bellman/laws.FnExactGraphOf" = some 3 by kernel_rfl).symm.trans hf) |>.symm
  obtain rfl : fn = Tryd.f3 := (Option.some.inj (Tryd.func3.symm.trans hfn)).symm
  refine ⟨by kernel_rfl, fun j t ht => ?_⟩
  rw [Tryd.params3] at ht
  have hm := Array.mem_of_getElem? ht
  simp only [List.mem_toArray, List.mem_cons, List.not_mem_nil, or_false] at hm
  rcases hm with rfl | rfl
  · exact (show Tryd.prog.wantsStandIn 24 = false by kernel_rfl)
  · exact (show Tryd.prog.wantsStandIn 3 = false by kernel_rfl)

theorem card : Rows.FnExactGraphOfCardSaid :=
  Claim7.holds_tied_plain_at .later [] _ _ _ _ said (fun _ h => by cases h) (by kernel_rfl) (fun _ h => by cases h) fnExactGraphOf_row_tie rfl ⟨rfl, rfl⟩ (by kernel_rfl) rfl plain (by kernel_rfl)
end Go.Proofs.YtlopjljmnadhcaaDoor.fnExactGraphOf
namespace Go.Proofs.YtlopjljmnadhcaaDoor
theorem fnExactGraphOf_holds : Rows.FnExactGraphOfCardSaid := fnExactGraphOf.card
#print axioms fnExactGraphOf_holds
end Go.Proofs.YtlopjljmnadhcaaDoor

