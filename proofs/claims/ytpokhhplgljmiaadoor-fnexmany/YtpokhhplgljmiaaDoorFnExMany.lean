/- Whatever bytes it is drawn by: how many parts and which names two have that are looked for, each alone, one or more times, and one behind the other. No condition. -/
import Derived.Test.YtpokhhplgljmiaaDoorExDs
import Derived.Test.YtpokhhplgljmiaaDoorXmP
import Derived.Test.YtpokhhplgljmiaaDoorExE4
import Derived.Test.YtpokhhplgljmiaaDoorExS2
import Derived.Deep.RegionHeld
import Derived.Test.YtpokhhplgljmiaaDoorCards
import Derived.Test.YtpokhhplgljmiaaDoorTie
import Derived.Deep.DeepHandedRow
import Derived.LaidLaws
import Derived.MakeChecks
import Derived.Stop.ErrReads
import Derived.RowKitTokens
namespace Go.Proofs.YtpokhhplgljmiaaDoor.fnExMany
open Go.ChangeShapes Go.WideShapes Go.ChangeAt Go.RowKit Go.Deep
set_option linter.unusedVariables false
set_option maxRecDepth 4000

theorem four {w : World} {A : Nat} {x0 x1 x2 s : Value} (h : Bx w A #[x0, x1, x2, s]) :
    w.cell? ⟨A, 0, none⟩ = some x0 ∧ w.cell? ⟨A, 1, none⟩ = some x1 ∧ w.cell? ⟨A, 2, none⟩ = some x2 ∧ w.cell? ⟨A, 3, none⟩ = some s :=
  ⟨h.cell 0 rfl, h.cell 1 rfl, h.cell 2 rfl, h.cell 3 rfl⟩
theorem syms_i (kd sy n : Int) (a : Option Addr) (cap : Nat) (F : Fo) (w : World) (t : TypeId) (v : Value) (hE : ErrAt w t v) (h : Slc w a F) :
    Calls Tryd.prog 9 #[.agg #[.int .i64 kd, .int .i64 sy, .int .i64 n, .slice a F.len cap]] w fun e w' => ∃ x y, e = .returned (.slice x (symsX kd sy n F).length y) ∧ Below w.heap.size w w' :=
  (implExSyms_any kd sy n a cap F w t v hE h).mono fun e w' ⟨v, he, ho, hb⟩ => by
    obtain ⟨x, y, rfl, _⟩ := intOwn_of ho
    exact ⟨x, y, he, hb⟩
theorem syms_s (kd sy n : Int) (a : Option Addr) (cap : Nat) (F : Fo) (w : World) (h : Slc w a F) (hs : F.size ≤ 1048576) :
    Calls Tryd.prog 13 #[.agg #[.int .i64 kd, .int .i64 sy, .int .i64 n, .slice a F.len cap]] w fun e w' => ∃ x y, e = .returned (.slice x (symsX kd sy n F).length y) ∧ Below w.heap.size w w' :=
  (specExSyms_any kd sy n a cap F w h hs).mono fun e w' ⟨v, he, ho, hb⟩ => by
    obtain ⟨x, y, rfl, _⟩ := intOwn_of ho
    exact ⟨x, y, he, hb⟩

set_option maxHeartbeats 10000000 in
theorem walk (a : Option Addr) (cap : Nat) (bs : List Int) (w : World) (t : TypeId) (v : Value) (h : Bytes w a bs ∧ bs.length ≤ cap) (hE : ErrAt w t v) :
    Calls Tryd.prog 4 #[.slice a bs.length cap] w fun e w' => e = .returned (.bool true) ∧ Below w.heap.size w w' := by
  obtain ⟨hB, hc⟩ := h
  have hlen := hB.len
  unfold maxLen at hlen
  by_cases hbig : (1048576 : Int) < (bs.length : Int)
  · go_enter Tryd.func4, Tryd.ntmps4
    go_wp2
    go_ret
    exact ⟨rfl, Below.refl _ _⟩
  go_enter Tryd.func4, Tryd.ntmps4
  go_wp2_with fail
  refine (drawExSame_any _ _ bs _ hB hc).mono ?_
  rintro e w1 ⟨kd, sy, n, p, c, F, S, kd', sy', n', p', c', F', S', rfl, ⟨hO1, hnd, hl3, hz⟩, ⟨hO1', hnd', hl3', hz'⟩, hk, hk', hb1⟩
  go_upto_region 4 with fail
  clear hB hc hlen
  obtain ⟨w2, hw2⟩ : ∃ u, w1.alloc (.cells #[.int .i64 kd, .int .i64 sy, .int .i64 n, .slice p F.len c] 25) = u := ⟨_, rfl⟩
  have hA2 := bx_new w1 #[.int .i64 kd, .int .i64 sy, .int .i64 n, .slice p F.len c] 25
  have hb2 := xBelow_new w1 (.cells #[.int .i64 kd, .int .i64 sy, .int .i64 n, .slice p F.len c] 25)
  have hs2 : (w1.alloc (.cells #[.int .i64 kd, .int .i64 sy, .int .i64 n, .slice p F.len c] 25)).heap.size = w1.heap.size + 1 := by simp
  rw [hw2] at hA2 hb2 hs2
  obtain ⟨w3, hw3⟩ : ∃ u, w2.alloc (.cells #[.int .i64 kd', .int .i64 sy', .int .i64 n', .slice p' F'.len c'] 25) = u := ⟨_, rfl⟩
  have hB3 := bx_new w2 #[.int .i64 kd', .int .i64 sy', .int .i64 n', .slice p' F'.len c'] 25
  have hb3 := xBelow_new w2 (.cells #[.int .i64 kd', .int .i64 sy', .int .i64 n', .slice p' F'.len c'] 25)
  rw [hw3] at hB3 hb3
  rw [hs2] at hB3
  have hA3 := hA2.below hb3
  have b03 := hb1.trans ((hb2.trans (hb3.mono hb2.size)).mono hb1.size)
  have hO3 := (hO1.below hb2).below hb3
  have hO3' := (hO1'.below hb2).below hb3
  have hE3 := hE.below b03
  obtain ⟨A, hAe⟩ : ∃ A, w1.heap.size = A := ⟨_, rfl⟩
  rw [hAe] at hA3 hB3
  obtain ⟨B, hBe⟩ : ∃ B, A + 1 = B := ⟨_, rfl⟩
  rw [hBe] at hB3
  clear hA2 hb2 hb3 hs2
  have cM := fun u hE h => implExMany_any kd sy n p c F u t v hE h
  have cS := fun u hE h => syms_i kd sy n p c F u t v hE h
  obtain ⟨M, hM⟩ : ∃ M, manyX kd sy n F = M := ⟨_, rfl⟩
  obtain ⟨m, hm⟩ : ∃ M, (symsX kd sy n F).length = M := ⟨_, rfl⟩
  rw [hM] at cM
  rw [hm] at cS
  obtain ⟨q0, q1, q2, q3⟩ := four hA3
  rw [hw2, hw3, hAe, hBe]
  go_wp2_with fail
  refine (cM _ hE3 (hO3.slc (by unfold maxLen; omega))).mono ?_
  rintro e w4 ⟨rfl, hb4⟩
  clear q0 q1 q2 q3
  have b04 := b03.trans (hb4.mono b03.size)
  have hE4 := hE3.below hb4
  have hO4 := hO3.below hb4
  have hO4' := hO3'.below hb4
  have hA4 := hA3.below hb4
  have hB4 := hB3.below hb4
  obtain ⟨q0, q1, q2, q3⟩ := four hA4
  go_wp2_with fail
  refine (cS _ hE4 (hO4.slc (by unfold maxLen; omega))).mono ?_
  rintro e w5 ⟨x5, y5, rfl, hb5⟩
  clear q0 q1 q2 q3 hw2 hw3
  have b05 := b04.trans (hb5.mono b04.size)
  have hE5 := hE4.below hb5
  have hO5 := hO4.below hb5
  have hO5' := hO4'.below hb5
  have hA5 := hA4.below hb5
  have hB5 := hB4.below hb5
  obtain ⟨q0, q1, q2, q3⟩ := four hA5
  obtain ⟨r0, r1, r2, r3⟩ := four hB5
  have d5 : Below w5.heap.size w5 w5.drew := (Below.refl _ _).drew
  have cMs := fun u h => specExMany_any kd sy n p c F u h (by omega)
  have cSs := fun u h => syms_s kd sy n p c F u h (by omega)
  have cEi := fun u h h' => implExSameAt_any kd sy n kd' sy' n' p c S F p' c' F' u h hnd (by unfold maxLen; omega) h' (by omega)
  have cEs := fun u h h' => specExSame_any F.size F (Nat.le_refl _) F' kd sy n kd' sy' n' p p' c c' u h h'
  have cEa := fun u h h' => implExSameAt_any kd sy n kd sy n p c S F p c F u h hnd (by unfold maxLen; omega) h' (by omega)
  rw [eqX_self] at cEa
  obtain ⟨Eb, hEb⟩ : ∃ M, eqX kd sy n F kd' sy' n' F' = M := ⟨_, rfl⟩
  rw [hM] at cMs
  rw [hm] at cSs
  rw [hEb] at cEi cEs
  clear hEb hA3 hB3 hO3 hO3' hE3 hA4 hB4 hO4 hO4' hE4 hb4 hb5 hAe hBe hbig hk hk' b03 b04 hO1 hO1' hb1 hE
  have hMne : ((M : Int) != (M : Int)) = false := by simp
  have hmne : ((m : Int) != (m : Int)) = false := by simp
  have hEne : (Eb != Eb) = false := by simp
  clear cM cS
  go_wp2_with fail
  go_region_held (fun v => (v.cell? ⟨A, 0, none⟩ = some (.int .i64 kd) ∧ v.cell? ⟨A, 1, none⟩ = some (.int .i64 sy) ∧ v.cell? ⟨A, 2, none⟩ = some (.int .i64 n) ∧ v.cell? ⟨A, 3, none⟩ = some (.slice p F.len c)) ∧ (v.cell? ⟨B, 0, none⟩ = some (.int .i64 kd') ∧ v.cell? ⟨B, 1, none⟩ = some (.int .i64 sy') ∧ v.cell? ⟨B, 2, none⟩ = some (.int .i64 n') ∧ v.cell? ⟨B, 3, none⟩ = some (.slice p' F'.len c'))) (go_keep)
    (first
    | (go_at_call 12; refine (cMs _ ((hO5.below d5).slc (by unfold maxLen; omega))).mono ?_; rintro e w6 ⟨rfl, hb6⟩; have d6 := d5.trans (hb6.mono d5.size); obtain ⟨r0, r1, r2, r3⟩ := four (hA5.below d6); obtain ⟨s0, s1, s2, s3⟩ := four (hB5.below d6))
    | (go_at_call 13; refine (cSs _ ((hO5.below d6).slc (by unfold maxLen; omega))).mono ?_; rintro e w7 ⟨x7, y7, rfl, hb7⟩; have d7 := d6.trans (hb7.mono d6.size); obtain ⟨r0, r1, r2, r3⟩ := four (hA5.below d7); obtain ⟨s0, s1, s2, s3⟩ := four (hB5.below d7))
    | (go_at_call 14; have _x := d9; refine (cEa _ (hO5.below d9) ((hO5.below d9).slc (by unfold maxLen; omega))).mono ?_; rintro e w10 ⟨rfl, hb10⟩; have d10 := d9.trans (hb10.mono d9.size); obtain ⟨r0, r1, r2, r3⟩ := four (hA5.below d10); obtain ⟨s0, s1, s2, s3⟩ := four (hB5.below d10))
    | (go_at_call 14; refine (cEi _ (hO5.below d7) ((hO5'.below d7).slc (by unfold maxLen; omega))).mono ?_; rintro e w8 ⟨rfl, hb8⟩; have d8 := d7.trans (hb8.mono d7.size); obtain ⟨r0, r1, r2, r3⟩ := four (hA5.below d8); obtain ⟨s0, s1, s2, s3⟩ := four (hB5.below d8))
    | (go_at_call 15; refine (cEs _ ((hO5.below d8).slc (by unfold maxLen; omega)) ((hO5'.below d8).slc (by unfold maxLen; omega))).mono ?_; rintro e w9 ⟨rfl, hb9⟩; have d9 := d8.trans (hb9.mono d8.size); obtain ⟨r0, r1, r2, r3⟩ := four (hA5.below d9); obtain ⟨s0, s1, s2, s3⟩ := four (hB5.below d9)))
  clear q0 q1 q2 q3
  have b010 := b05.trans (d10.mono b05.size)
  have hE10 := hE5.below d10
  have hO10 := hO5.below d10
  have hO10' := hO5'.below d10
  have hA10 := hA5.below d10
  have hB10 := hB5.below d10
  clear cMs cSs cEi cEs cEa
  have hok0 := fun h => @many_pos kd sy n F h
  have hno0 := fun h => @many_no kd sy n F h
  have hok1 := fun h => @syms_pos kd sy n F h
  have hno1 := fun h => @syms_no kd sy n F h
  have pP := fun h => @many_plus kd sy n F h
  have sP := fun h => @syms_plus kd sy n F h
  have pQ := fun h => @many_seq kd sy n kd' sy' n' F F' h
  have sQ := fun h => @syms_seq kd sy n kd' sy' n' F F' h
  have hM12 := many_le kd sy n F
  have hM12' := many_le kd' sy' n' F'
  have hm5 := syms_le kd sy n F
  have hm5' := syms_le kd' sy' n' F'
  have cMb := fun u hE h => implExMany_any kd' sy' n' p' c' F' u t v hE h
  have cSb := fun u hE h => syms_i kd' sy' n' p' c' F' u t v hE h
  have cO := fun u h => specExOk_any kd sy n p c F u h (by omega)
  obtain ⟨M', hM'⟩ : ∃ M, manyX kd' sy' n' F' = M := ⟨_, rfl⟩
  obtain ⟨m', hm'⟩ : ∃ M, (symsX kd' sy' n' F').length = M := ⟨_, rfl⟩
  obtain ⟨ok, hok⟩ : ∃ M, okX kd sy n F = M := ⟨_, rfl⟩
  rw [hM] at hok0 hno0 hM12 pP pQ
  rw [hM'] at cMb hM12' pQ
  rw [hm] at hok1 hno1 hm5 sP sQ
  rw [hm'] at cSb hm5' sQ
  rw [hok] at hok0 hno0 hok1 hno1 cO
  obtain ⟨FP, hFP⟩ : ∃ X, Fo.cons kd sy n F .nil = X := ⟨_, rfl⟩
  obtain ⟨FQ, hFQ⟩ : ∃ X, Fo.cons kd sy n F (.cons kd' sy' n' F' .nil) = X := ⟨_, rfl⟩
  have hlP : FP.len = 1 := by rw [← hFP]; rfl
  have hlQ : FQ.len = 2 := by rw [← hFQ]; rfl
  rw [hFP] at pP sP
  rw [hFQ] at pQ sQ
  clear hM hM' hm hm' hok
  clear d5 d6 d7 d8 d9 d10
  obtain ⟨w11, hw11⟩ : ∃ u, w10.alloc (.cells #[.int .i64 kd, .int .i64 sy, .int .i64 n, .slice p F.len c] 25) = u := ⟨_, rfl⟩
  have hr11 : PBox (w10.alloc (.cells #[.int .i64 kd, .int .i64 sy, .int .i64 n, .slice p F.len c] 25)) w10.heap.size kd sy n (.slice p F.len c) := ⟨heap_alloc_new _ _⟩
  have hb11 := xBelow_new w10 (.cells #[.int .i64 kd, .int .i64 sy, .int .i64 n, .slice p F.len c] 25)
  have hs11 : (w10.alloc (.cells #[.int .i64 kd, .int .i64 sy, .int .i64 n, .slice p F.len c] 25)).heap.size = w10.heap.size + 1 := by simp
  rw [hw11] at hr11 hb11 hs11
  obtain ⟨G, hG⟩ : ∃ G, w10.heap.size = G := ⟨_, rfl⟩
  rw [hG] at hr11 hs11
  obtain ⟨w12, hw12⟩ : ∃ u, w11.alloc (.cells #[.int .i64 7, .int .i64 0, .int .i64 1, .slice (some ⟨G, 0, none⟩) 1 1] 25) = u := ⟨_, rfl⟩
  have hP12 := bx_new w11 #[.int .i64 7, .int .i64 0, .int .i64 1, .slice (some ⟨G, 0, none⟩) 1 1] 25
  have hb12 := xBelow_new w11 (.cells #[.int .i64 7, .int .i64 0, .int .i64 1, .slice (some ⟨G, 0, none⟩) 1 1] 25)
  have hs12 : (w11.alloc (.cells #[.int .i64 7, .int .i64 0, .int .i64 1, .slice (some ⟨G, 0, none⟩) 1 1] 25)).heap.size = w11.heap.size + 1 := by simp
  rw [hw12] at hP12 hb12 hs12
  rw [hs11] at hP12 hs12
  obtain ⟨w13, hw13⟩ : ∃ u, w12.alloc (.cells #[.int .i64 kd, .int .i64 sy, .int .i64 n, .slice p F.len c, .int .i64 kd', .int .i64 sy', .int .i64 n', .slice p' F'.len c'] 25) = u := ⟨_, rfl⟩
  have hr13 : (w12.alloc (.cells #[.int .i64 kd, .int .i64 sy, .int .i64 n, .slice p F.len c, .int .i64 kd', .int .i64 sy', .int .i64 n', .slice p' F'.len c'] 25)).heap[w12.heap.size]? = some (.cells #[.int .i64 kd, .int .i64 sy, .int .i64 n, .slice p F.len c, .int .i64 kd', .int .i64 sy', .int .i64 n', .slice p' F'.len c'] 25 (0, 0)) := heap_alloc_new _ _
  have hb13 := xBelow_new w12 (.cells #[.int .i64 kd, .int .i64 sy, .int .i64 n, .slice p F.len c, .int .i64 kd', .int .i64 sy', .int .i64 n', .slice p' F'.len c'] 25)
  have hs13 : (w12.alloc (.cells #[.int .i64 kd, .int .i64 sy, .int .i64 n, .slice p F.len c, .int .i64 kd', .int .i64 sy', .int .i64 n', .slice p' F'.len c'] 25)).heap.size = w12.heap.size + 1 := by simp
  rw [hw13] at hr13 hb13 hs13
  rw [hs12] at hr13 hs13
  obtain ⟨w14, hw14⟩ : ∃ u, w13.alloc (.cells #[.int .i64 4, .int .i64 0, .int .i64 0, .slice (some ⟨G + 1 + 1, 0, none⟩) 2 2] 25) = u := ⟨_, rfl⟩
  have hQ14 := bx_new w13 #[.int .i64 4, .int .i64 0, .int .i64 0, .slice (some ⟨G + 1 + 1, 0, none⟩) 2 2] 25
  have hb14 := xBelow_new w13 (.cells #[.int .i64 4, .int .i64 0, .int .i64 0, .slice (some ⟨G + 1 + 1, 0, none⟩) 2 2] 25)
  rw [hw14] at hQ14 hb14
  rw [hs13] at hQ14
  have e1012 := hb11.trans (hb12.mono hb11.size)
  have e1013 := (hb11.trans (hb12.mono hb11.size)).trans (hb13.mono (hb11.trans (hb12.mono hb11.size)).size)
  have e1014 := e1013.trans (hb14.mono e1013.size)
  have hinP14 : Slc w14 (some ⟨G, 0, none⟩) FP := by
    rw [← hFP]
    exact ((own_one (hO10.below hb11) (by unfold maxLen; omega) hr11).slc (by simp [Fo.len]; unfold maxLen; omega)).below (hb12.trans ((hb13.trans (hb14.mono hb13.size)).mono hb12.size))
  have hinQ14 : Slc w14 (some ⟨G + 1 + 1, 0, none⟩) FQ := by
    rw [← hFQ]
    exact ((own_two (hO10.below e1013) (by unfold maxLen; omega) (hO10'.below e1013) (by unfold maxLen; omega) hr13).slc (by simp [Fo.len]; unfold maxLen; omega)).below hb14
  have hP14 := hP12.below (hb13.trans (hb14.mono hb13.size))
  have b014 := b010.trans (e1014.mono b010.size)
  have hE14 := hE10.below e1014
  have hO14 := hO10.below e1014
  have hO14' := hO10'.below e1014
  have hA14 := hA10.below e1014
  have hB14 := hB10.below e1014
  have hA12 := hA10.below e1012
  have hB12 := hB10.below e1012
  clear e1012 e1013 e1014 hr11 hb11 hP12 hb12 hr13 hb13 hb14
  obtain ⟨q0, q1, q2, q3⟩ := four hA10
  obtain ⟨r0, r1, r2, r3⟩ := four hB10
  have cOP := fun u hE h => implExOk_any 7 0 1 (some ⟨G, 0, none⟩) 1 FP u t v hE h
  have cMP := fun u hE h => implExMany_any 7 0 1 (some ⟨G, 0, none⟩) 1 FP u t v hE h
  have cSP := fun u hE h => syms_i 7 0 1 (some ⟨G, 0, none⟩) 1 FP u t v hE h
  have cOQ := fun u hE h => implExOk_any 4 0 0 (some ⟨G + 1 + 1, 0, none⟩) 2 FQ u t v hE h
  have cMQ := fun u hE h => implExMany_any 4 0 0 (some ⟨G + 1 + 1, 0, none⟩) 2 FQ u t v hE h
  have cSQ := fun u hE h => syms_i 4 0 0 (some ⟨G + 1 + 1, 0, none⟩) 2 FQ u t v hE h
  rw [hlP] at cOP cMP cSP
  rw [hlQ] at cOQ cMQ cSQ
  obtain ⟨u, hu⟩ : ∃ u, (symsX 4 0 0 FQ).length = u := ⟨_, rfl⟩
  have hu5 := syms_le 4 0 0 FQ
  rw [hu] at cSQ sQ hu5
  obtain ⟨okp, hokp⟩ : ∃ b, okX 7 0 1 FP = b := ⟨_, rfl⟩
  obtain ⟨okq, hokq⟩ : ∃ b, okX 4 0 0 FQ = b := ⟨_, rfl⟩
  rw [hokp] at cOP pP sP
  rw [hokq] at cOQ pQ sQ
  go_upto_region 9 with fail
  clear q0 q1 q2 q3 r0 r1 r2 r3 hw11 hw12
  obtain ⟨q0, q1, q2, q3⟩ := four hA12
  obtain ⟨r0, r1, r2, r3⟩ := four hB12
  go_upto_region 10 with fail
  clear q0 q1 q2 q3 r0 r1 r2 r3 hw13 hw14 hs11 hs12 hs13 hA12 hB12 hlP hlQ hFP hFQ hG
  obtain ⟨q0, q1, q2, q3⟩ := four hP14
  go_wp2_with fail
  refine (cOP _ hE14 hinP14).mono ?_
  rintro e w15 ⟨rfl, hb15⟩
  clear q0 q1 q2 q3
  have b015 := b014.trans (hb15.mono b014.size)
  have hE15 := hE14.below hb15
  have hO15 := hO14.below hb15
  have hO15' := hO14'.below hb15
  have hA15 := hA14.below hb15
  have hB15 := hB14.below hb15
  have hP15 := hP14.below hb15
  have hQ15 := hQ14.below hb15
  have hinP15 := hinP14.below hb15
  have hinQ15 := hinQ14.below hb15
  cases okp
  · skip
    obtain ⟨q0, q1, q2, q3⟩ := four hQ15
    go_wp2_with fail
    refine (cOQ _ hE15 hinQ15).mono ?_
    rintro e w18 ⟨rfl, hb18⟩
    clear q0 q1 q2 q3
    have b018 := b015.trans (hb18.mono b015.size)
    have hE18 := hE15.below hb18
    have hO18 := hO15.below hb18
    have hO18' := hO15'.below hb18
    have hA18 := hA15.below hb18
    have hB18 := hB15.below hb18
    have hP18 := hP15.below hb18
    have hQ18 := hQ15.below hb18
    have hinP18 := hinP15.below hb18
    have hinQ18 := hinQ15.below hb18
    cases okq
    · skip
      cases ok
      · obtain rfl : M = 0 := hno0 rfl
        obtain rfl : m = 0 := hno1 rfl
        obtain ⟨q0, q1, q2, q3⟩ := four hA18
        go_wp2_with fail
        refine (cO _ (hO18.slc (by unfold maxLen; omega))).mono ?_
        rintro e wy ⟨rfl, hby⟩
        have b0y := b018.trans (hby.mono b018.size)
        have hOy := hO18.below hby
        clear q0 q1 q2 q3
        obtain ⟨q0, q1, q2, q3⟩ := four (hA18.below hby)
        go_wp2_with fail
        refine (cO _ (hOy.slc (by unfold maxLen; omega))).mono ?_
        rintro e wz ⟨rfl, hbz⟩
        have b0z := b0y.trans (hbz.mono b0y.size)
        go_wp2
        go_ret
        exact ⟨rfl, b0z⟩
      · have hM0 := hok0 rfl
        have hm0 := hok1 rfl
        have hM0' : ((M : Int) == 0) = false := by simp; omega
        have hm0' : (0 : Int) < (m : Int) := by omega
        obtain ⟨q0, q1, q2, q3⟩ := four hA18
        go_wp2_with fail
        refine (cO _ (hO18.slc (by unfold maxLen; omega))).mono ?_
        rintro e wy ⟨rfl, hby⟩
        have b0y := b018.trans (hby.mono b018.size)
        have hOy := hO18.below hby
        clear q0 q1 q2 q3
        obtain ⟨q0, q1, q2, q3⟩ := four (hA18.below hby)
        go_wp2_with fail
        refine (cO _ (hOy.slc (by unfold maxLen; omega))).mono ?_
        rintro e wz ⟨rfl, hbz⟩
        have b0z := b0y.trans (hbz.mono b0y.size)
        go_wp2
        go_ret
        exact ⟨rfl, b0z⟩
    · have hQ := pQ rfl
      obtain ⟨hs1, hs2, hs3⟩ := sQ rfl
      have hMQ : ((manyX 4 0 0 FQ : Nat) : Int) = (M : Int) + (M' : Int) + 1 := by omega
      rw [hMQ] at cMQ
      clear hQ hMQ pQ sQ
      have hs1' : ¬ ((u : Int) < (m : Int)) := by omega
      have hs2' : ¬ ((u : Int) < (m' : Int)) := by omega
      have hs3' : ¬ ((m : Int) + (m' : Int) < (u : Int)) := by omega
      have hs1d : decide ((u : Int) < (m : Int)) = false := decide_eq_false hs1'
      have hs2d : decide ((u : Int) < (m' : Int)) = false := decide_eq_false hs2'
      have hs3d : decide ((m : Int) + (m' : Int) < (u : Int)) = false := decide_eq_false hs3'
      have hs1n : decide (u < m) = false := decide_eq_false (by omega)
      have hs2n : decide (u < m') = false := decide_eq_false (by omega)
      have hs3n : decide (m + m' < u) = false := decide_eq_false (by omega)
      have hQne : ((M : Int) + (M' : Int) + 1 != (M : Int) + (M' : Int) + 1) = false := by simp
      obtain ⟨q0, q1, q2, q3⟩ := four hB18
      go_wp2_with fail
      refine (cSb _ hE18 (hO18'.slc (by unfold maxLen; omega))).mono ?_
      rintro e w19 ⟨x19, y19, rfl, hb19⟩
      clear q0 q1 q2 q3
      have b019 := b018.trans (hb19.mono b018.size)
      have hE19 := hE18.below hb19
      have hO19 := hO18.below hb19
      have hO19' := hO18'.below hb19
      have hA19 := hA18.below hb19
      have hB19 := hB18.below hb19
      have hP19 := hP18.below hb19
      have hQ19 := hQ18.below hb19
      have hinP19 := hinP18.below hb19
      have hinQ19 := hinQ18.below hb19
      obtain ⟨q0, q1, q2, q3⟩ := four hQ19
      go_wp2_with fail
      refine (cSQ _ hE19 hinQ19).mono ?_
      rintro e w20 ⟨x20, y20, rfl, hb20⟩
      clear q0 q1 q2 q3
      have b020 := b019.trans (hb20.mono b019.size)
      have hE20 := hE19.below hb20
      have hO20 := hO19.below hb20
      have hO20' := hO19'.below hb20
      have hA20 := hA19.below hb20
      have hB20 := hB19.below hb20
      have hP20 := hP19.below hb20
      have hQ20 := hQ19.below hb20
      have hinP20 := hinP19.below hb20
      have hinQ20 := hinQ19.below hb20
      obtain ⟨q0, q1, q2, q3⟩ := four hQ20
      obtain ⟨r0, r1, r2, r3⟩ := four hB20
      have d20 : Below w20.heap.size w20 w20.drew := (Below.refl _ _).drew
      have hinB20 : Slc w20 p' F' := hO20'.slc (by unfold maxLen; omega)
      go_wp2_with fail
      have hw1 : IntKind.i64.wrap ((M : Int) + (M' : Int)) = (M : Int) + (M' : Int) := by rw [IntKind.wrap_i64]; omega
      have hw2 : IntKind.i64.wrap ((M : Int) + (M' : Int) + 1) = (M : Int) + (M' : Int) + 1 := by clear hw1; rw [IntKind.wrap_i64]; omega
      have hw3 : IntKind.i64.wrap ((m : Int) + (m' : Int)) = (m : Int) + (m' : Int) := by clear hw1 hw2; rw [IntKind.wrap_i64]; omega
      go_region_held (fun v => (v.cell? ⟨(G + 1 + 1 + 1), 0, none⟩ = some (.int .i64 4) ∧ v.cell? ⟨(G + 1 + 1 + 1), 1, none⟩ = some (.int .i64 0) ∧ v.cell? ⟨(G + 1 + 1 + 1), 2, none⟩ = some (.int .i64 0) ∧ v.cell? ⟨(G + 1 + 1 + 1), 3, none⟩ = some (.slice (some ⟨G + 1 + 1, 0, none⟩) 2 2)) ∧ (v.cell? ⟨B, 0, none⟩ = some (.int .i64 kd') ∧ v.cell? ⟨B, 1, none⟩ = some (.int .i64 sy') ∧ v.cell? ⟨B, 2, none⟩ = some (.int .i64 n') ∧ v.cell? ⟨B, 3, none⟩ = some (.slice p' F'.len c'))) (go_keep)
        (first
        | (go_at_call 11; have _x := d21; refine (cMb _ (hE20.below d21) (hinB20.below d21)).mono ?_; rintro e w22 ⟨rfl, hb22⟩; have d22 := d21.trans (hb22.mono d21.size); obtain ⟨r0, r1, r2, r3⟩ := four (hQ20.below d22); obtain ⟨s0, s1, s2, s3⟩ := four (hB20.below d22))
        | (go_at_call 11; refine (cMQ _ (hE20.below d20) (hinQ20.below d20)).mono ?_; rintro e w21 ⟨rfl, hb21⟩; have d21 := d20.trans (hb21.mono d20.size); obtain ⟨r0, r1, r2, r3⟩ := four (hQ20.below d21); obtain ⟨s0, s1, s2, s3⟩ := four (hB20.below d21)))
      clear q0 q1 q2 q3 hw1 hw2 hw3
      have b022 := b020.trans (d22.mono b020.size)
      have hE22 := hE20.below d22
      have hO22 := hO20.below d22
      have hO22' := hO20'.below d22
      have hA22 := hA20.below d22
      have hB22 := hB20.below d22
      have hP22 := hP20.below d22
      have hQ22 := hQ20.below d22
      have hinP22 := hinP20.below d22
      have hinQ22 := hinQ20.below d22
      cases ok
      · obtain rfl : M = 0 := hno0 rfl
        obtain rfl : m = 0 := hno1 rfl
        obtain ⟨q0, q1, q2, q3⟩ := four hA22
        go_wp2_with fail
        refine (cO _ (hO22.slc (by unfold maxLen; omega))).mono ?_
        rintro e wy ⟨rfl, hby⟩
        have b0y := b022.trans (hby.mono b022.size)
        have hOy := hO22.below hby
        clear q0 q1 q2 q3
        obtain ⟨q0, q1, q2, q3⟩ := four (hA22.below hby)
        go_wp2_with fail
        refine (cO _ (hOy.slc (by unfold maxLen; omega))).mono ?_
        rintro e wz ⟨rfl, hbz⟩
        have b0z := b0y.trans (hbz.mono b0y.size)
        go_wp2
        go_ret
        exact ⟨rfl, b0z⟩
      · have hM0 := hok0 rfl
        have hm0 := hok1 rfl
        have hM0' : ((M : Int) == 0) = false := by simp; omega
        have hm0' : (0 : Int) < (m : Int) := by omega
        obtain ⟨q0, q1, q2, q3⟩ := four hA22
        go_wp2_with fail
        refine (cO _ (hO22.slc (by unfold maxLen; omega))).mono ?_
        rintro e wy ⟨rfl, hby⟩
        have b0y := b022.trans (hby.mono b022.size)
        have hOy := hO22.below hby
        clear q0 q1 q2 q3
        obtain ⟨q0, q1, q2, q3⟩ := four (hA22.below hby)
        go_wp2_with fail
        refine (cO _ (hOy.slc (by unfold maxLen; omega))).mono ?_
        rintro e wz ⟨rfl, hbz⟩
        have b0z := b0y.trans (hbz.mono b0y.size)
        go_wp2
        go_ret
        exact ⟨rfl, b0z⟩
  · have hP := pP rfl
    have hS := sP rfl
    have hMP : ((manyX 7 0 1 FP : Nat) : Int) = (M : Int) + 1 := by omega
    rw [hMP] at cMP
    rw [hS] at cSP
    clear hP hS hMP pP sP
    have hPne : ((M : Int) + 1 != (M : Int) + 1) = false := by simp
    obtain ⟨q0, q1, q2, q3⟩ := four hP15
    go_wp2_with fail
    refine (cMP _ hE15 hinP15).mono ?_
    rintro e w16 ⟨rfl, hb16⟩
    clear q0 q1 q2 q3
    have b016 := b015.trans (hb16.mono b015.size)
    have hE16 := hE15.below hb16
    have hO16 := hO15.below hb16
    have hO16' := hO15'.below hb16
    have hA16 := hA15.below hb16
    have hB16 := hB15.below hb16
    have hP16 := hP15.below hb16
    have hQ16 := hQ15.below hb16
    have hinP16 := hinP15.below hb16
    have hinQ16 := hinQ15.below hb16
    obtain ⟨q0, q1, q2, q3⟩ := four hP16
    go_wp2_with fail
    refine (cSP _ hE16 hinP16).mono ?_
    rintro e w17 ⟨x17, y17, rfl, hb17⟩
    clear q0 q1 q2 q3
    have b017 := b016.trans (hb17.mono b016.size)
    have hE17 := hE16.below hb17
    have hO17 := hO16.below hb17
    have hO17' := hO16'.below hb17
    have hA17 := hA16.below hb17
    have hB17 := hB16.below hb17
    have hP17 := hP16.below hb17
    have hQ17 := hQ16.below hb17
    have hinP17 := hinP16.below hb17
    have hinQ17 := hinQ16.below hb17
    obtain ⟨q0, q1, q2, q3⟩ := four hQ17
    go_wp2_with fail
    refine (cOQ _ hE17 hinQ17).mono ?_
    rintro e w18 ⟨rfl, hb18⟩
    clear q0 q1 q2 q3
    have b018 := b017.trans (hb18.mono b017.size)
    have hE18 := hE17.below hb18
    have hO18 := hO17.below hb18
    have hO18' := hO17'.below hb18
    have hA18 := hA17.below hb18
    have hB18 := hB17.below hb18
    have hP18 := hP17.below hb18
    have hQ18 := hQ17.below hb18
    have hinP18 := hinP17.below hb18
    have hinQ18 := hinQ17.below hb18
    cases okq
    · skip
      cases ok
      · obtain rfl : M = 0 := hno0 rfl
        obtain rfl : m = 0 := hno1 rfl
        obtain ⟨q0, q1, q2, q3⟩ := four hA18
        go_wp2_with fail
        refine (cO _ (hO18.slc (by unfold maxLen; omega))).mono ?_
        rintro e wy ⟨rfl, hby⟩
        have b0y := b018.trans (hby.mono b018.size)
        have hOy := hO18.below hby
        clear q0 q1 q2 q3
        obtain ⟨q0, q1, q2, q3⟩ := four (hA18.below hby)
        go_wp2_with fail
        refine (cO _ (hOy.slc (by unfold maxLen; omega))).mono ?_
        rintro e wz ⟨rfl, hbz⟩
        have b0z := b0y.trans (hbz.mono b0y.size)
        go_wp2
        go_ret
        exact ⟨rfl, b0z⟩
      · have hM0 := hok0 rfl
        have hm0 := hok1 rfl
        have hM0' : ((M : Int) == 0) = false := by simp; omega
        have hm0' : (0 : Int) < (m : Int) := by omega
        obtain ⟨q0, q1, q2, q3⟩ := four hA18
        go_wp2_with fail
        refine (cO _ (hO18.slc (by unfold maxLen; omega))).mono ?_
        rintro e wy ⟨rfl, hby⟩
        have b0y := b018.trans (hby.mono b018.size)
        have hOy := hO18.below hby
        clear q0 q1 q2 q3
        obtain ⟨q0, q1, q2, q3⟩ := four (hA18.below hby)
        go_wp2_with fail
        refine (cO _ (hOy.slc (by unfold maxLen; omega))).mono ?_
        rintro e wz ⟨rfl, hbz⟩
        have b0z := b0y.trans (hbz.mono b0y.size)
        go_wp2
        go_ret
        exact ⟨rfl, b0z⟩
    · have hQ := pQ rfl
      obtain ⟨hs1, hs2, hs3⟩ := sQ rfl
      have hMQ : ((manyX 4 0 0 FQ : Nat) : Int) = (M : Int) + (M' : Int) + 1 := by omega
      rw [hMQ] at cMQ
      clear hQ hMQ pQ sQ
      have hs1' : ¬ ((u : Int) < (m : Int)) := by omega
      have hs2' : ¬ ((u : Int) < (m' : Int)) := by omega
      have hs3' : ¬ ((m : Int) + (m' : Int) < (u : Int)) := by omega
      have hs1d : decide ((u : Int) < (m : Int)) = false := decide_eq_false hs1'
      have hs2d : decide ((u : Int) < (m' : Int)) = false := decide_eq_false hs2'
      have hs3d : decide ((m : Int) + (m' : Int) < (u : Int)) = false := decide_eq_false hs3'
      have hs1n : decide (u < m) = false := decide_eq_false (by omega)
      have hs2n : decide (u < m') = false := decide_eq_false (by omega)
      have hs3n : decide (m + m' < u) = false := decide_eq_false (by omega)
      have hQne : ((M : Int) + (M' : Int) + 1 != (M : Int) + (M' : Int) + 1) = false := by simp
      obtain ⟨q0, q1, q2, q3⟩ := four hB18
      go_wp2_with fail
      refine (cSb _ hE18 (hO18'.slc (by unfold maxLen; omega))).mono ?_
      rintro e w19 ⟨x19, y19, rfl, hb19⟩
      clear q0 q1 q2 q3
      have b019 := b018.trans (hb19.mono b018.size)
      have hE19 := hE18.below hb19
      have hO19 := hO18.below hb19
      have hO19' := hO18'.below hb19
      have hA19 := hA18.below hb19
      have hB19 := hB18.below hb19
      have hP19 := hP18.below hb19
      have hQ19 := hQ18.below hb19
      have hinP19 := hinP18.below hb19
      have hinQ19 := hinQ18.below hb19
      obtain ⟨q0, q1, q2, q3⟩ := four hQ19
      go_wp2_with fail
      refine (cSQ _ hE19 hinQ19).mono ?_
      rintro e w20 ⟨x20, y20, rfl, hb20⟩
      clear q0 q1 q2 q3
      have b020 := b019.trans (hb20.mono b019.size)
      have hE20 := hE19.below hb20
      have hO20 := hO19.below hb20
      have hO20' := hO19'.below hb20
      have hA20 := hA19.below hb20
      have hB20 := hB19.below hb20
      have hP20 := hP19.below hb20
      have hQ20 := hQ19.below hb20
      have hinP20 := hinP19.below hb20
      have hinQ20 := hinQ19.below hb20
      obtain ⟨q0, q1, q2, q3⟩ := four hQ20
      obtain ⟨r0, r1, r2, r3⟩ := four hB20
      have d20 : Below w20.heap.size w20 w20.drew := (Below.refl _ _).drew
      have hinB20 : Slc w20 p' F' := hO20'.slc (by unfold maxLen; omega)
      go_wp2_with fail
      have hw1 : IntKind.i64.wrap ((M : Int) + (M' : Int)) = (M : Int) + (M' : Int) := by rw [IntKind.wrap_i64]; omega
      have hw2 : IntKind.i64.wrap ((M : Int) + (M' : Int) + 1) = (M : Int) + (M' : Int) + 1 := by clear hw1; rw [IntKind.wrap_i64]; omega
      have hw3 : IntKind.i64.wrap ((m : Int) + (m' : Int)) = (m : Int) + (m' : Int) := by clear hw1 hw2; rw [IntKind.wrap_i64]; omega
      go_region_held (fun v => (v.cell? ⟨(G + 1 + 1 + 1), 0, none⟩ = some (.int .i64 4) ∧ v.cell? ⟨(G + 1 + 1 + 1), 1, none⟩ = some (.int .i64 0) ∧ v.cell? ⟨(G + 1 + 1 + 1), 2, none⟩ = some (.int .i64 0) ∧ v.cell? ⟨(G + 1 + 1 + 1), 3, none⟩ = some (.slice (some ⟨G + 1 + 1, 0, none⟩) 2 2)) ∧ (v.cell? ⟨B, 0, none⟩ = some (.int .i64 kd') ∧ v.cell? ⟨B, 1, none⟩ = some (.int .i64 sy') ∧ v.cell? ⟨B, 2, none⟩ = some (.int .i64 n') ∧ v.cell? ⟨B, 3, none⟩ = some (.slice p' F'.len c'))) (go_keep)
        (first
        | (go_at_call 11; have _x := d21; refine (cMb _ (hE20.below d21) (hinB20.below d21)).mono ?_; rintro e w22 ⟨rfl, hb22⟩; have d22 := d21.trans (hb22.mono d21.size); obtain ⟨r0, r1, r2, r3⟩ := four (hQ20.below d22); obtain ⟨s0, s1, s2, s3⟩ := four (hB20.below d22))
        | (go_at_call 11; refine (cMQ _ (hE20.below d20) (hinQ20.below d20)).mono ?_; rintro e w21 ⟨rfl, hb21⟩; have d21 := d20.trans (hb21.mono d20.size); obtain ⟨r0, r1, r2, r3⟩ := four (hQ20.below d21); obtain ⟨s0, s1, s2, s3⟩ := four (hB20.below d21)))
      clear q0 q1 q2 q3 hw1 hw2 hw3
      have b022 := b020.trans (d22.mono b020.size)
      have hE22 := hE20.below d22
      have hO22 := hO20.below d22
      have hO22' := hO20'.below d22
      have hA22 := hA20.below d22
      have hB22 := hB20.below d22
      have hP22 := hP20.below d22
      have hQ22 := hQ20.below d22
      have hinP22 := hinP20.below d22
      have hinQ22 := hinQ20.below d22
      cases ok
      · obtain rfl : M = 0 := hno0 rfl
        obtain rfl : m = 0 := hno1 rfl
        obtain ⟨q0, q1, q2, q3⟩ := four hA22
        go_wp2_with fail
        refine (cO _ (hO22.slc (by unfold maxLen; omega))).mono ?_
        rintro e wy ⟨rfl, hby⟩
        have b0y := b022.trans (hby.mono b022.size)
        have hOy := hO22.below hby
        clear q0 q1 q2 q3
        obtain ⟨q0, q1, q2, q3⟩ := four (hA22.below hby)
        go_wp2_with fail
        refine (cO _ (hOy.slc (by unfold maxLen; omega))).mono ?_
        rintro e wz ⟨rfl, hbz⟩
        have b0z := b0y.trans (hbz.mono b0y.size)
        go_wp2
        go_ret
        exact ⟨rfl, b0z⟩
      · have hM0 := hok0 rfl
        have hm0 := hok1 rfl
        have hM0' : ((M : Int) == 0) = false := by simp; omega
        have hm0' : (0 : Int) < (m : Int) := by omega
        obtain ⟨q0, q1, q2, q3⟩ := four hA22
        go_wp2_with fail
        refine (cO _ (hO22.slc (by unfold maxLen; omega))).mono ?_
        rintro e wy ⟨rfl, hby⟩
        have b0y := b022.trans (hby.mono b022.size)
        have hOy := hO22.below hby
        clear q0 q1 q2 q3
        obtain ⟨q0, q1, q2, q3⟩ := four (hA22.below hby)
        go_wp2_with fail
        refine (cO _ (hOy.slc (by unfold maxLen; omega))).mono ?_
        rintro e wz ⟨rfl, hbz⟩
        have b0z := b0y.trans (hbz.mono b0y.size)
        go_wp2
        go_ret
        exact ⟨rfl, b0z⟩

theorem globErr : Tryd.prog.globalNamed "loop.example/bellman/impl.errExNone" = some 0 := by kernel_rfl
theorem typeErr : (Tryd.prog.globals[0]?).map (·.type) = some 71 := by kernel_rfl
theorem cellsErr : Tryd.prog.cellsOf 144 = 1 := by kernel_rfl
theorem cellsStr : Tryd.prog.cellsOf 9 = 1 := by kernel_rfl
theorem starErr : "*" ++ "errors.errorString" = "*errors.errorString" := by decide
theorem rowErr (u : TypeId) (h : Tryd.prog.typeName? 3 u = some "*errors.errorString") : u = 114 :=
  typeName_ptr_named (nm := "errors.errorString") (by rw [starErr]; kernel_rfl) (by kernel_rfl) (by decide) u (by rw [starErr]; exact h)
/-- The sentinel is an interface value that holds something. -/
theorem sentinel {W : World} (h : laidMetH Tryd.prog Rows.fnExManyRow.laid W) : ∃ a, W.var? Tryd.prog "loop.example/bellman/impl.errExNone" = some #[.iface 114 (.pointer (some a))] := by
  have h1 := h.filter (fun x => x.1 == "loop.example/bellman/impl.errExNone")
  have e : Rows.fnExManyRow.laid.filter (fun x => x.1 == "loop.example/bellman/impl.errExNone") = [("loop.example/bellman/impl.errExNone", Rows.laid_loop_example_bellman_impl_errExNone)] := by kernel_rfl
  rw [e, Go.MakeChecks.laidMetH_plain _ _ _ (by kernel_rfl)] at h1
  obtain ⟨ps, ⟨g0, t0, cs0, f0, p0, q0, hg0, ht0, hv0, hd0, hq, e0⟩, hnd, hrows⟩ := h1
  obtain rfl := Option.some.inj (globErr.symm.trans hg0)
  obtain rfl := Option.some.inj (typeErr.symm.trans ht0)
  subst e0
  obtain ⟨l0⟩ := cs0
  have ok0 : ∀ u v, l0 = [.iface u v] → Value.okWide Tryd.prog W .any 0 u v := fun u v e => by
    subst e
    exact (hrows 0 0 (by simp [MemPlace.row])).2 u v (by simpa using World.var?_cell hg0 hv0 0)
  obtain ⟨a0, s0, rfl, _, _, _, _⟩ := errorString_of_trod Tryd.underlying71 rowErr Tryd.underlying114 Tryd.underlying144 rfl rfl Tryd.underlying9 cellsErr cellsStr hd0 ok0
  exact ⟨a0, hv0⟩
theorem errAt {W : World} {a : Addr} (h : W.var? Tryd.prog "loop.example/bellman/impl.errExNone" = some #[.iface 114 (.pointer (some a))]) : ErrAt W 114 (.pointer (some a)) := by
  have := World.var?_cell globErr h 0
  simpa [ErrAt] using this
theorem var_below {W W' : World} {cs : Array Value} (h : W.var? Tryd.prog "loop.example/bellman/impl.errExNone" = some cs) (hb : Below W.heap.size W W') : W'.var? Tryd.prog "loop.example/bellman/impl.errExNone" = some cs := by
  unfold World.var? at h ⊢
  simp only [globErr, Option.bind_some] at h ⊢
  have hlt : 0 < W.heap.size := by
    rcases Nat.lt_or_ge 0 W.heap.size with h' | h'
    · exact h'
    · simp [Array.getElem?_eq_none h'] at h
  rw [hb.block _ hlt]
  exact h
theorem vars_read {H : Type} (enc : TypeId × Value → H) {W : World} {a : Addr} (h0 : W.var? Tryd.prog "loop.example/bellman/impl.errExNone" = some #[.iface 114 (.pointer (some a))]) (sp : Nat → Bool) :
    DataW.TrodVars enc Tryd.prog W sp ["loop.example/bellman/impl.errExNone"] [tok enc (.iface 114 (.pointer (some a)))] [.cell 0 0] :=
  ⟨0, 71, #[.iface 114 (.pointer (some a))], 1, [], [], globErr, typeErr, h0, trod_held Tryd.underlying71 (show IsIface (.iface 114 (.pointer (some a))) from trivial) 0, rfl, rfl⟩

theorem contract (H : Type) (enc : TypeId × Value → H) (W : World) (base : Nat) (args : Array Value) (ds gs : List (DataW H)) (before : List MemPlace)
    (hval : ∀ (j : Nat) t v, Tryd.f4.params[j]? = some t → args[j]? = some v → Value.okWide Tryd.prog W .any base t v)
    (hW : DataW.Whole enc Tryd.prog Tryd.f4.params.toList Rows.fnExManySpec.vars false W args.toList ds gs before) (hL : laidMetH Tryd.prog Rows.fnExManyRow.laid W) :
    Calls Tryd.prog 4 args W fun e W' => ∃ v, e = .returned v ∧ Rows.fnExManySpec.post enc Tryd.prog Tryd.f4 false true false false W args v W' := by
  have hW' := hW
  obtain ⟨p, q, hA0, hV0, rfl, hfz, hnd⟩ := hW
  have hA : DataW.TrodAll enc Tryd.prog W 0 (fun _ => true) true Tryd.f4.params.toList args.toList ds p := hA0
  have hV : DataW.TrodVars enc Tryd.prog W (fun _ => true) ["loop.example/bellman/impl.errExNone"] gs q := hV0
  rw [Tryd.params4] at hA hval
  obtain ⟨v0, vs0, d0, ds0, p0, q0, hargs, rfl, rfl, h0, r0⟩ := trodAll_cons hA
  obtain ⟨rfl, rfl, rfl⟩ := trodAll_nil r0
  obtain rfl : args = #[v0] := by cases args; simp_all
  obtain ⟨ea, hva⟩ := sentinel hL
  obtain ⟨rfl, rfl⟩ := hV.unique (vars_read enc hva _)
  have k0 := h0
  have lt0 : ∀ x ∈ p0, x.block < W.heap.size := by obtain ⟨m, hm⟩ := k0; exact DataW.trod_lt m _ _ _ hm
  obtain ⟨a0, cap0, bs0, rfl, e0⟩ := open_bytes (hval 0 22 v0 rfl rfl) h0
  clear hA0 hV0
  refine (walk a0 cap0 bs0 W 114 (.pointer (some ea)) e0 (errAt hva)).mono fun e W' ⟨he, bel⟩ => ?_
  subst he
  exact ⟨_, rfl, _, _, _, [], _, [.cell 0 0], hW', trodAll_mk1 (shut_bool Tryd.underlying4 _), (trodAll_cons_mk (Below.trod laidOut (by kernel_rfl) (of_decide_eq_true (by kernel_rfl)) k0 bel lt0) trodAll_mk0), vars_read enc (var_below hva bel) _, bel.frame _, fun h => by cases h⟩

noncomputable def low : Nat := (World.holding Tryd.prog default ⟨#[], #[], []⟩).heap.size
theorem laid_met (os : Os) : laidMet Tryd.prog Rows.fnExManyRow.laid (({ World.holding Tryd.prog os ⟨#[.cells #[.string { data := #[110, 111, 116, 104, 105, 110, 103, 32, 116, 104, 97, 116, 32, 105, 115, 32, 108, 111, 111, 107, 101, 100, 32, 102, 111, 114] }] 144], #[], []⟩ with heap := ((World.holding Tryd.prog os ⟨#[.cells #[.string { data := #[110, 111, 116, 104, 105, 110, 103, 32, 116, 104, 97, 116, 32, 105, 115, 32, 108, 111, 111, 107, 101, 100, 32, 102, 111, 114] }] 144], #[], []⟩).heap.modify 0 fun
      | .cells _ t frozen => .cells #[.iface 114 (.pointer (some ⟨low, 0, none⟩))] t frozen
      | o => o) } : World).forCall (fun _ _ => 0) ⟨#[], #[.slice none 0 0], []⟩).memory :=
  laidMet_of_run' 8 (by kernel_rfl) (by kernel_rfl)
theorem reads (os : Os) {H : Type} (enc : TypeId × Value → H) : DataW.whole enc Tryd.prog (({ World.holding Tryd.prog os ⟨#[.cells #[.string { data := #[110, 111, 116, 104, 105, 110, 103, 32, 116, 104, 97, 116, 32, 105, 115, 32, 108, 111, 111, 107, 101, 100, 32, 102, 111, 114] }] 144], #[], []⟩ with heap := ((World.holding Tryd.prog os ⟨#[.cells #[.string { data := #[110, 111, 116, 104, 105, 110, 103, 32, 116, 104, 97, 116, 32, 105, 115, 32, 108, 111, 111, 107, 101, 100, 32, 102, 111, 114] }] 144], #[], []⟩).heap.modify 0 fun
      | .cells _ t frozen => .cells #[.iface 114 (.pointer (some ⟨low, 0, none⟩))] t frozen
      | o => o) } : World).forCall (fun _ _ => 0) ⟨#[], #[.slice none 0 0], []⟩).memory Tryd.f4.params.toList Rows.fnExManySpec.vars false (#[.slice none 0 0] : Array Value).toList 8 = some ([.nil], [tok enc (.iface 114 (.pointer (some ⟨low, 0, none⟩)))], [.cell 0 0]) := by kernel_rfl

set_option maxRecDepth 100000 in
theorem lifted (os : Os) (started : os.Started) (H : Type) (enc : TypeId × Value → H) (F : Stop.Interp) :
    ReturnsInHanded {} Tryd.checked os 4 .any ((OpenSpec.ofChange Rows.fnExManySpec).preRow enc Tryd.prog Tryd.f4 Rows.fnExManyRow.domain false Rows.fnExManyRow.laid) (((OpenSpec.ofChange Rows.fnExManySpec).at F).post enc Tryd.prog Tryd.f4 false true false false) := by
  refine returnsInHanded_of_row (C := Tryd.checked) (s := OpenSpec.ofChange Rows.fnExManySpec) own started (by kernel_rfl) Tryd.func4
    (witness_row_at (enc := enc) (C := Tryd.checked) false ({ World.holding Tryd.prog os ⟨#[.cells #[.string { data := #[110, 111, 116, 104, 105, 110, 103, 32, 116, 104, 97, 116, 32, 105, 115, 32, 108, 111, 111, 107, 101, 100, 32, 102, 111, 114] }] 144], #[], []⟩ with heap := ((World.holding Tryd.prog os ⟨#[.cells #[.string { data := #[110, 111, 116, 104, 105, 110, 103, 32, 116, 104, 97, 116, 32, 105, 115, 32, 108, 111, 111, 107, 101, 100, 32, 102, 111, 114] }] 144], #[], []⟩).heap.modify 0 fun
      | .cells _ t frozen => .cells #[.iface 114 (.pointer (some ⟨low, 0, none⟩))] t frozen
      | o => o) } : World) #[.slice none 0 0] rfl (by kernel_rfl) (by kernel_rfl) (by kernel_rfl)
      (OpenSpec.preRow_of_cond 8 (reads os enc) (by kernel_rfl) (fun k hk => by cases hk) (by kernel_rfl) (laid_met os))) ?_
  intro W base args ds gs before hval hW _ _ _ hL hSh _
  exact contract H enc W base args ds gs before hval hW hL

theorem said : Rows.FnExManySaid :=
  OpenClaim.holds_of_cond 4 Tryd.f4 rfl rfl rfl rfl rfl rfl rfl ⟨rfl, rfl, rfl, rfl, rfl⟩ rfl rfl rfl rfl rfl (by kernel_rfl) Tryd.func4 (by kernel_rfl)
    (of_decide_eq_true (by kernel_rfl)) (by unfold Func.isWrapper; first | (rw [if_pos (by decide +kernel)]; kernel_rfl) | (rw [if_neg (by decide +kernel)]; exact ⟨rfl, rfl⟩))
    (fun os started H enc _ F => by rw [OpenClaim.pre_eq_preRow]; exact lifted os started H enc F)

theorem plain (f : FuncId) (fn : Func) (hf : Tryd.pinned.checked.prog.funcNamed "loop.example/bellman/laws.FnExMany" = some f) (hfn : Tryd.pinned.checked.prog.funcs[f]? = some fn) :
    false = Tryd.pinned.checked.prog.looks [] ∧ ∀ (j : Nat) t, fn.params[j]? = some t → Tryd.pinned.checked.prog.wantsStandIn t = false := by
  obtain rfl : f = 4 := Option.some.inj ((show Tryd.prog.funcNamed "loop.example/bellman/laws.FnExMany" = some 4 by kernel_rfl).symm.trans hf) |>.symm
  obtain rfl : fn = Tryd.f4 := (Option.some.inj (Tryd.func4.symm.trans hfn)).symm
  refine ⟨by kernel_rfl, fun j t ht => ?_⟩
  rw [Tryd.params4] at ht
  have hm := Array.mem_of_getElem? ht
  simp only [List.mem_toArray, List.mem_cons, List.not_mem_nil, or_false] at hm
  rcases hm with rfl
  · exact (show Tryd.prog.wantsStandIn 22 = false by kernel_rfl)

theorem card : Rows.FnExManyCardSaid :=
  Claim7.holds_tied_plain_at .later [] _ _ _ _ said (fun _ h => by cases h) (by kernel_rfl) (fun _ h => by cases h) fnExMany_row_tie rfl ⟨rfl, rfl⟩ (by kernel_rfl) rfl plain (by kernel_rfl)
end Go.Proofs.YtpokhhplgljmiaaDoor.fnExMany
namespace Go.Proofs.YtpokhhplgljmiaaDoor
theorem fnExMany_holds : Rows.FnExManyCardSaid := fnExMany.card
#print axioms fnExMany_holds
end Go.Proofs.YtpokhhplgljmiaaDoor

