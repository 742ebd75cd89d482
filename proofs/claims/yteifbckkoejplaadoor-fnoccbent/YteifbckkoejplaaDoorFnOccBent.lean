/- Whatever is drawn: the program's OccOk and OccsOk answer as the specification's; a place that is ok is not with a beginning behind its end, without events, or with one twice; a list with a place twice is not ok, and nothing is put into it. The library's table of places of bits is as its text lays it. -/
import Derived.Test.YteifbckkoejplaaDoorFnOccBent0
import Derived.Test.YteifbckkoejplaaDoorCards
import Derived.Test.YteifbckkoejplaaDoorTie
import Derived.Deep.DeepHandedRow
import Derived.Deep.CutRange
import Derived.Deep.DeepCutAuto
import Derived.LaidLaws
import Derived.MakeChecks
namespace Go.Proofs.YteifbckkoejplaaDoor.fnOccBent
open Go.ChangeShapes Go.WideShapes Go.ChangeAt Go.RowKit
set_option linter.unusedVariables false
set_option maxRecDepth 4000

set_option maxHeartbeats 1000000 in
theorem walk (a : Option Addr) (cap : Nat) (bs : List Int) (w : World) (h : Bytes w a bs ∧ bs.length ≤ cap) (hT : BTab w) :
    Calls Tryd.prog 3 #[.slice a bs.length cap] w fun e w' => e = .returned (.bool true) ∧ Below w.heap.size w w' := by
  obtain ⟨hB, hc⟩ := h
  have hlen := hB.len
  unfold maxLen at hlen
  by_cases hbig : (1048576 : Int) < (bs.length : Int)
  · go_enter Tryd.func3, Tryd.ntmps3
    go_wp2
    go_ret
    exact ⟨rfl, Below.refl _ _⟩
  · go_enter Tryd.func3, Tryd.ntmps3
    go_wp2_with fail
    refine (drawOccOk_any _ _ bs _ hB hc).mono ?_
    rintro e w1 ⟨o, ao, co, rfl, hio, hb1⟩
    have hX2 := box3_new w1 (.int .i64 o.fr) (.int .i64 o.tl) (.slice ao o.ids.length co) 25
    have hb2 := oBelow_new w1 (.cells #[.int .i64 o.fr, .int .i64 o.tl, .slice ao o.ids.length co] 25)
    obtain ⟨w2, hw2⟩ : ∃ w2, w1.alloc (.cells #[.int .i64 o.fr, .int .i64 o.tl, .slice ao o.ids.length co] 25) = w2 := ⟨_, rfl⟩
    rw [hw2] at hX2 hb2
    have b02 := hb1.trans (hb2.mono hb1.size)
    have hdr := drawOccsOk_any a cap bs w2 (hB.below b02) hc
    go_wp2_with fail
    refine hdr.mono ?_
    rintro e w3 ⟨al, cl, m, rfl, hm7, hocc, hb3⟩
    have b03 := b02.trans (hb3.mono b02.size)
    have hX3 := hX2.below hb3
    have hio3 := (hio.below hb2).below hb3
    obtain ⟨x0, x1, x2⟩ := hX3.cells
    have hxl := hX3.lt
    have f0 := fun u : After w3 => u.cell x0 hxl
    have f1 := fun u : After w3 => u.cell x1 hxl
    have f2 := fun u : After w3 => u.cell x2 hxl
    have hcA := fun (u : After w3) => calls_after (u := u) (implOccOk_any o.fr o.tl ao co o.ids u.v (hio3.below u.h))
    have hcB := fun (u : After w3) => calls_after (u := u) (specOccOk_any o.fr o.tl ao co o.ids u.v (hio3.below u.h))
    have hcC := fun (u : After w3) => calls_after (u := u) (implOccsOk_any al cl m u.v (hocc.below u.h))
    have hcD := fun (u : After w3) => calls_after (u := u) (specOccsOk_any al cl m u.v (hocc.below u.h))
    have hany := after_any
    clear hdr hw2
    have hcut : ∃ bo bl, occOkB o.fr o.tl o.ids = bo ∧ occsOkB m = bl := ⟨_, _, rfl, rfl⟩
    obtain ⟨bo, bl, hbo, hbl⟩ := hcut
    have Hbo : Hid (occOkB o.fr o.tl o.ids = bo) := hbo
    have Hbl : Hid (occsOkB m = bl) := hbl
    rw [hbo] at hcA hcB
    rw [hbl] at hcC hcD
    clear hbo hbl
    have hoo : (bo != bo) = false := by cases bo <;> rfl
    have hll : (bl != bl) = false := by cases bl <;> rfl
    go_wp2
    refine wp_region_after (by kernel_rfl) (by kernel_rfl) ?_
    repeat (go_big_quiet_step (first | (go_at_call 6; refine hcA _) | (go_at_call 7; refine hcB _) | (go_at_call 8; refine hcC _) | (go_at_call 9; refine hcD _)))
    refine wpQuiet_nil ?_
    intro w4 hu
    have hb4 := after_of hu
    clear hu hcA hcB hcC hcD f0 f1 f2
    have b04 := b03.trans (hb4.mono b03.size)
    have hX4 := hX3.below hb4
    have hio4 := hio3.below hb4
    have hocc4 := hocc.below hb4
    clear x0 x1 x2
    obtain ⟨x0, x1, x2⟩ := hX4.cells
    go_wp2_with fail
    refine (specOccOk_any o.fr o.tl ao co o.ids _ hio4).mono ?_
    rintro e w5 ⟨rfl, hb5⟩
    rw [Hbo.out]
    have b05 := b04.trans (hb5.mono b04.size)
    go_upto_if 29 with fail
    go_cut [] (fun wx => Below w5.heap.size w5 wx)
    case first =>
      cases bo
      · go_wp2_with fail
        go_meet
        exact Below.refl _ _
      · skip
        have hX5 := hX4.below hb5
        have hio5 := hio4.below hb5
        have hocc5 := hocc4.below hb5
        clear x0 x1 x2
        obtain ⟨x0, x1, x2⟩ := hX5.cells
        have hxl5 := hX5.lt
        have hg : o.Ok := Hbo.out
        obtain ⟨g1, g2, g3, g4⟩ := hg.good
        have hob : 1 ≤ o.fr ∧ o.fr ≤ o.tl ∧ o.tl ≤ 2000 := by
          have h' : occOkB o.fr o.tl o.ids = true := hg
          simp only [occOkB, Bool.and_eq_true, decide_eq_true_eq] at h'
          omega
        obtain ⟨b, off, rfl, hblt, hcc⟩ := hio5.cells g1
        obtain ⟨n1, hn1⟩ : ∃ n1, o.ids.length = n1 + 1 := ⟨o.ids.length - 1, by omega⟩
        have hn1l : n1 < o.ids.length := by omega
        have zc := hcc n1 hn1l
        obtain ⟨z, hzz⟩ : ∃ z, o.ids[n1] = z := ⟨_, rfl⟩
        rw [hzz] at zc
        have hsub : (o.ids.length : Int) - 1 = (n1 : Int) := by omega
        have hw1 : IntKind.i64.wrap ((o.ids.length : Int) - 1) = (n1 : Int) := by rw [IntKind.wrap_i64]; omega
        have hw2 : IntKind.i64.wrap (n1 : Int) = (n1 : Int) := by rw [IntKind.wrap_i64]; omega
        have hw3 : (n1 : Int) < (o.ids.length : Int) := by omega
        have Hn1 : Hid (o.ids.length = n1 + 1) := hn1
        have Hzz : Hid (o.ids[n1] = z) := hzz
        clear hn1 hzz hcc
        go_upto_region 13 with fail
        have kA := oBelow_new w5 (.cells #[.int .i64 (o.tl + 1), .int .i64 o.tl, .slice (some ⟨b, off, none⟩) o.ids.length co] 25)
        have kB := kA.alloc kA.size (.cells #[.int .i64 o.fr, .int .i64 o.tl, .slice none 0 0] 25)
        have kC := kB.alloc kB.size (.cells #[.int .i64 o.fr, .int .i64 o.tl, .slice (some ⟨b, off, none⟩) o.ids.length co] 25)
        have hA := (box3_new w5 (.int .i64 (o.tl + 1)) (.int .i64 o.tl) (.slice (some ⟨b, off, none⟩) o.ids.length co) 25).below (((Below.refl _ _).alloc (Nat.le_refl _) (.cells #[.int .i64 o.fr, .int .i64 o.tl, .slice none 0 0] 25)).alloc (by simp) (.cells #[.int .i64 o.fr, .int .i64 o.tl, .slice (some ⟨b, off, none⟩) o.ids.length co] 25))
        have hC : (((w5.alloc (.cells #[.int .i64 (o.tl + 1), .int .i64 o.tl, .slice (some ⟨b, off, none⟩) o.ids.length co] 25)).alloc (.cells #[.int .i64 o.fr, .int .i64 o.tl, .slice none 0 0] 25)).alloc (.cells #[.int .i64 o.fr, .int .i64 o.tl, .slice (some ⟨b, off, none⟩) o.ids.length co] 25)).heap[w5.heap.size + 1 + 1]? = some (.cells #[.int .i64 o.fr, .int .i64 o.tl, .slice (some ⟨b, off, none⟩) o.ids.length co] 25 (0, 0)) := oAlloc3_third _ _ _ _
        have hBx : (((w5.alloc (.cells #[.int .i64 (o.tl + 1), .int .i64 o.tl, .slice (some ⟨b, off, none⟩) o.ids.length co] 25)).alloc (.cells #[.int .i64 o.fr, .int .i64 o.tl, .slice none 0 0] 25)).alloc (.cells #[.int .i64 o.fr, .int .i64 o.tl, .slice (some ⟨b, off, none⟩) o.ids.length co] 25)).heap[w5.heap.size + 1]? = some (.cells #[.int .i64 o.fr, .int .i64 o.tl, .slice none 0 0] 25 (0, 0)) := oAlloc3_second _ _ _ _
        have hCl : w5.heap.size + 1 + 1 < (((w5.alloc (.cells #[.int .i64 (o.tl + 1), .int .i64 o.tl, .slice (some ⟨b, off, none⟩) o.ids.length co] 25)).alloc (.cells #[.int .i64 o.fr, .int .i64 o.tl, .slice none 0 0] 25)).alloc (.cells #[.int .i64 o.fr, .int .i64 o.tl, .slice (some ⟨b, off, none⟩) o.ids.length co] 25)).heap.size := by simp
        obtain ⟨wB, hwB⟩ : ∃ wB, ((w5.alloc (.cells #[.int .i64 (o.tl + 1), .int .i64 o.tl, .slice (some ⟨b, off, none⟩) o.ids.length co] 25)).alloc (.cells #[.int .i64 o.fr, .int .i64 o.tl, .slice none 0 0] 25)).alloc (.cells #[.int .i64 o.fr, .int .i64 o.tl, .slice (some ⟨b, off, none⟩) o.ids.length co] 25) = wB := ⟨_, rfl⟩
        rw [hwB] at kC hA hC hBx hCl
        rw [hwB]
        have hIB := hio5.below kC
        have hbB : b < wB.heap.size := Nat.lt_of_lt_of_le hblt kC.size
        have hOl : w1.heap.size < wB.heap.size := Nat.lt_of_lt_of_le hxl5 kC.size
        have oB := (kC.cell (p := ⟨w1.heap.size, 2, none⟩) hxl5).trans x2
        have zB := (kC.cell (p := ⟨b, off + n1, none⟩) hblt).trans zc
        obtain ⟨v0, hv0⟩ : ∃ v0, wB.drew = v0 := ⟨_, rfl⟩
        have sv0 : wB.heap.size = v0.heap.size := by rw [← hv0]; rfl
        have kv : Below wB.heap.size wB v0 := by rw [← hv0]; exact (Below.refl _ _).drew
        have oE : (v0.alloc (.cells #[] 3)).ownsRow wB.heap.size 3 1 (.slice (some ⟨v0.heap.size, 0, none⟩) 0 0) 0 [] := World.ownsRow_made _ _ _ (Nat.le_of_eq sv0) (by simp [maxLen]) rfl
        have kE : Below wB.heap.size wB (v0.alloc (.cells #[] 3)) := kv.alloc kv.size _
        have z1 : v0.heap.size < (v0.alloc (.cells #[] 3)).heap.size := by simp
        obtain ⟨W1, hW1⟩ : ∃ W1, v0.alloc (.cells #[] 3) = W1 := ⟨_, rfl⟩
        rw [hW1] at oE kE z1
        have oES : (W1.alloc (.cells #[.int .i64 z] 3)).ownsRow wB.heap.size 3 1 (.slice (some ⟨v0.heap.size, 0, none⟩) 0 0) 0 [] := pOwns_below oE (oBelow_new _ _)
        have kES : Below wB.heap.size wB (W1.alloc (.cells #[.int .i64 z] 3)) := kE.alloc kE.size _
        have sES : (W1.alloc (.cells #[.int .i64 z] 3)).heap[W1.heap.size]? = some (.cells #[.int .i64 z] 3 (0, 0)) := heap_alloc_new W1 _
        have z2 : W1.heap.size < (W1.alloc (.cells #[.int .i64 z] 3)).heap.size := by simp
        obtain ⟨W2, hW2⟩ : ∃ W2, W1.alloc (.cells #[.int .i64 z] 3) = W2 := ⟨_, rfl⟩
        rw [hW2] at oES kES sES z2
        have kS : Below wB.heap.size wB (v0.alloc (.cells #[.int .i64 z] 3)) := kv.alloc kv.size _
        have z3 : v0.heap.size < (v0.alloc (.cells #[.int .i64 z] 3)).heap.size := by simp
        have sS : (v0.alloc (.cells #[.int .i64 z] 3)).heap[v0.heap.size]? = some (.cells #[.int .i64 z] 3 (0, 0)) := heap_alloc_new v0 _
        obtain ⟨W3a, hW3a⟩ : ∃ W3a, v0.alloc (.cells #[.int .i64 z] 3) = W3a := ⟨_, rfl⟩
        rw [hW3a] at kS z3 sS
        have oSE : (W3a.alloc (.cells #[] 3)).ownsRow wB.heap.size 3 1 (.slice (some ⟨W3a.heap.size, 0, none⟩) 0 0) 0 [] := World.ownsRow_made _ _ _ kS.size (by simp [maxLen]) rfl
        have kSE : Below wB.heap.size wB (W3a.alloc (.cells #[] 3)) := kS.alloc kS.size _
        have sSE : (W3a.alloc (.cells #[] 3)).heap[v0.heap.size]? = some (.cells #[.int .i64 z] 3 (0, 0)) := (Below.heap_alloc W3a (.cells #[] 3) v0.heap.size (by omega)).trans sS
        have z4 : W3a.heap.size < (W3a.alloc (.cells #[] 3)).heap.size := by simp
        obtain ⟨W3, hW3⟩ : ∃ W3, W3a.alloc (.cells #[] 3) = W3 := ⟨_, rfl⟩
        rw [hW3] at oSE kSE sSE z4
        obtain ⟨a1', c1', w5a, r1, q1, gg1, t1⟩ := iapp_list (cl := co) kE oE hIB hbB (by omega)
        obtain ⟨a2', c2', w5b, r2, q2, gg2, t2⟩ := iapp_list (cl := co) kES oES hIB hbB (by omega)
        obtain ⟨a3', c3', w5c, r3, q3, gg3, t3⟩ := iapp_list (cl := co) kSE oSE hIB hbB (by omega)
        have S2 := (gg2.block W1.heap.size z2 (fun e => absurd (show W1.heap.size = v0.heap.size by simpa using e) (by omega))).trans sES
        have S3 := (gg3.block v0.heap.size (by omega) (fun e => absurd (show v0.heap.size = W3a.heap.size by simpa using e) (by omega))).trans sSE
        have tX : Below wB.heap.size wB (w5a.alloc (.cells #[.int .i64 z] 3)) := t1.alloc t1.size _
        have qX := pOwns_below q1 (oBelow_new w5a (.cells #[.int .i64 z] 3))
        have SX : (w5a.alloc (.cells #[.int .i64 z] 3)).heap[w5a.heap.size]? = some (.cells #[.int .i64 z] 3 (0, 0)) := heap_alloc_new w5a _
        obtain ⟨X1, hX1⟩ : ∃ X1, w5a.alloc (.cells #[.int .i64 z] 3) = X1 := ⟨_, rfl⟩
        rw [hX1] at tX qX SX
        obtain ⟨e1, f1, w7a, m1, l1, y1⟩ := iapp_one (z := z) tX qX (by omega) SX
        obtain ⟨e2, f2, w7b, m2, l2, y2⟩ := iapp_one (z := z) t2 q2 (by omega) S2
        obtain ⟨e3, f3, w7c, m3, l3, y3⟩ := iapp_one (z := z) t3 q3 (by omega) S3
        have ov0 := (kv.cell (p := ⟨w1.heap.size, 2, none⟩) hOl).trans oB
        have pv0 := (kv.cell (p := ⟨b, off + n1, none⟩) hbB).trans zB
        have oW1 := (kE.cell (p := ⟨w1.heap.size, 2, none⟩) hOl).trans oB
        have pW1 := (kE.cell (p := ⟨b, off + n1, none⟩) hbB).trans zB
        have oW2 := (kES.cell (p := ⟨w1.heap.size, 2, none⟩) hOl).trans oB
        have pW2 := (kES.cell (p := ⟨b, off + n1, none⟩) hbB).trans zB
        have oW3a := (kS.cell (p := ⟨w1.heap.size, 2, none⟩) hOl).trans oB
        have pW3a := (kS.cell (p := ⟨b, off + n1, none⟩) hbB).trans zB
        have oW3 := (kSE.cell (p := ⟨w1.heap.size, 2, none⟩) hOl).trans oB
        have pW3 := (kSE.cell (p := ⟨b, off + n1, none⟩) hbB).trans zB
        have ow5a := (t1.cell (p := ⟨w1.heap.size, 2, none⟩) hOl).trans oB
        have pw5a := (t1.cell (p := ⟨b, off + n1, none⟩) hbB).trans zB
        have ow5b := (t2.cell (p := ⟨w1.heap.size, 2, none⟩) hOl).trans oB
        have pw5b := (t2.cell (p := ⟨b, off + n1, none⟩) hbB).trans zB
        have ow5c := (t3.cell (p := ⟨w1.heap.size, 2, none⟩) hOl).trans oB
        have pw5c := (t3.cell (p := ⟨b, off + n1, none⟩) hbB).trans zB
        have oX1 := (tX.cell (p := ⟨w1.heap.size, 2, none⟩) hOl).trans oB
        have pX1 := (tX.cell (p := ⟨b, off + n1, none⟩) hbB).trans zB
        have ow7a := (y1.cell (p := ⟨w1.heap.size, 2, none⟩) hOl).trans oB
        have pw7a := (y1.cell (p := ⟨b, off + n1, none⟩) hbB).trans zB
        have ow7b := (y2.cell (p := ⟨w1.heap.size, 2, none⟩) hOl).trans oB
        have pw7b := (y2.cell (p := ⟨b, off + n1, none⟩) hbB).trans zB
        have ow7c := (y3.cell (p := ⟨w1.heap.size, 2, none⟩) hOl).trans oB
        have pw7c := (y3.cell (p := ⟨b, off + n1, none⟩) hbB).trans zB
        have uw7a := (y1.block (w5.heap.size + 1 + 1) hCl).trans hC
        have ccw7a := oCell uw7a 2
        have fcw7a : ∀ o, w7a.frozen? ⟨w5.heap.size + 1 + 1, o, none⟩ = false := fun o => by simp [World.frozen?, uw7a]
        have uw7b := (y2.block (w5.heap.size + 1 + 1) hCl).trans hC
        have ccw7b := oCell uw7b 2
        have fcw7b : ∀ o, w7b.frozen? ⟨w5.heap.size + 1 + 1, o, none⟩ = false := fun o => by simp [World.frozen?, uw7b]
        have uw7c := (y3.block (w5.heap.size + 1 + 1) hCl).trans hC
        have ccw7c := oCell uw7c 2
        have fcw7c : ∀ o, w7c.frozen? ⟨w5.heap.size + 1 + 1, o, none⟩ = false := fun o => by simp [World.frozen?, uw7c]
        simp [go_sem] at r1 r2 r3 m1 m2 m3
        simp at ccw7a ccw7b ccw7c
        clear q1 q2 q3 qX gg1 gg2 gg3 oE oES oSE S2 S3 SX sES sSE sS
        go_cut [] (fun wx => ∃ W7 a7 c7, wx = W7.setCell ⟨w5.heap.size + 1 + 1, 2, none⟩ (.slice a7 (o.ids.length + 1) c7) ∧ W7.ownsRow wB.heap.size 3 1 (.slice a7 (o.ids.length + 1) c7) (o.ids.length + 1) (intCells (o.ids ++ [z])) ∧ Below wB.heap.size wB W7)
        case first =>
          go_region_held (fun v => v.cell? ⟨w1.heap.size, 2, none⟩ = some (.slice (some ⟨b, off, none⟩) o.ids.length co) ∧ v.cell? ⟨b, off + n1, none⟩ = some (.int .i64 z)) (first | (go_keep; done) | (simp (disch := omega) only [pKeep_set]; exact ⟨by assumption, by assumption⟩)) (fail)
          all_goals (try go_wp2_with fail)
          all_goals go_meet
          all_goals first
            | exact ⟨w7a, e1, f1, rfl, l1, y1⟩
            | exact ⟨w7b, e2, f2, rfl, l2, y2⟩
            | exact ⟨w7c, e3, f3, rfl, l3, y3⟩
        case rest =>
          obtain ⟨W7, a7, c7, hwc, hrow7, hb7⟩ := hcut
          have kW : Below w5.heap.size w5 W7 := kC.trans (hb7.mono kC.size)
          have k8 : Below w5.heap.size w5 wc := by rw [hwc]; exact kW.setCell (by show w5.heap.size ≤ w5.heap.size + 1 + 1; omega) _
          have A8 : Box3 wc w5.heap.size (.int .i64 (o.tl + 1)) (.int .i64 o.tl) (.slice (some ⟨b, off, none⟩) o.ids.length co) := by rw [hwc]; exact box3_set (hA.below hb7) (by omega)
          have B8 : Box3 wc (w5.heap.size + 1) (.int .i64 o.fr) (.int .i64 o.tl) (.slice none 0 0) := by rw [hwc]; exact box3_set (Box3.below ⟨_, _, hBx⟩ hb7) (by omega)
          have C8 : Box3 wc (w5.heap.size + 1 + 1) (.int .i64 o.fr) (.int .i64 o.tl) (.slice a7 (o.ids.length + 1) c7) := by rw [hwc]; exact box3_put2 (Box3.below ⟨_, _, hC⟩ hb7) _
          have j8 : Ints wc a7 (o.ids ++ [z]) := by
            rw [hwc]
            have hl : (o.ids ++ [z]).length = o.ids.length + 1 := by simp
            have hh : (W7.setCell ⟨w5.heap.size + 1 + 1, 2, none⟩ (.slice a7 (o.ids.length + 1) c7)).ownsRow wB.heap.size 3 1 (.slice a7 (o.ids.length + 1) c7) (o.ids ++ [z]).length (intCells (o.ids ++ [z])) := by
              rw [hl]
              exact ownsRow_setCell_below hrow7 (a := ⟨w5.heap.size + 1 + 1, 2, none⟩) hCl (.slice a7 (o.ids.length + 1) c7)
            exact row_ints hh
          have O8 := hX5.below k8
          have i8 := hio5.below k8
          have T8 := hT.below (b05.trans (k8.mono b05.size)) hT.lt
          have oA : occOkB (o.tl + 1) o.tl o.ids = false := occOkB_late _ _ _ (by omega)
          have oB' : occOkB o.fr o.tl [] = false := by simp [occOkB]
          have oC' : occOkB o.fr o.tl (o.ids ++ [z]) = false := twice_last (by rw [← Hzz.out]; exact List.getElem_mem _)
          clear r1 r2 r3 m1 m2 m3 l1 l2 l3 y1 y2 y3 t1 t2 t3 tX uw7a uw7b uw7c ccw7a ccw7b ccw7c fcw7a fcw7b fcw7c
          clear ov0 pv0 oW1 pW1 oW2 pW2 oW3a pW3a oW3 pW3 ow5a pw5a ow5b pw5b ow5c pw5c oX1 pX1 ow7a pw7a ow7b pw7b ow7c pw7c
          clear hW1 hW2 hW3a hW3 hX1 hv0 hwc hrow7 kE kES kS kSE kv
          clear x0 x1 x2
          obtain ⟨x0, x1, x2⟩ := A8.cells
          go_wp2_with fail
          refine (implOccOk_any (o.tl + 1) o.tl _ _ o.ids _ i8).mono ?_
          rintro e w9 ⟨rfl, hb9⟩
          rw [oA]
          have k9 := k8.trans (hb9.mono k8.size)
          clear x0 x1 x2
          obtain ⟨x0, x1, x2⟩ := (B8.below hb9).cells
          go_wp2_with fail
          refine (implOccOk_any o.fr o.tl none 0 [] _ (ints_none _)).mono ?_
          rintro e w10 ⟨rfl, hb10⟩
          rw [oB']
          have b910 := hb9.trans (hb10.mono hb9.size)
          clear x0 x1 x2
          obtain ⟨x0, x1, x2⟩ := (C8.below b910).cells
          have hcc := implOccOk_any o.fr o.tl a7 c7 (o.ids ++ [z]) w10 (j8.below b910)
          rw [show (o.ids ++ [z]).length = o.ids.length + 1 by simp, oC'] at hcc
          go_wp2_with fail
          refine hcc.mono ?_
          rintro e w11 ⟨rfl, hb11⟩
          have b911 := b910.trans (hb11.mono b910.size)
          clear x0 x1 x2
          obtain ⟨x0, x1, x2⟩ := (A8.below b911).cells
          obtain ⟨y0, y1, y2⟩ := (O8.below b911).cells
          have hjj := implOccJoin_any ⟨o.tl + 1, o.tl, o.ids⟩ o (some ⟨b, off, none⟩) co (some ⟨b, off, none⟩) co w11 (i8.below b911) (i8.below b911) (T8.below b911 T8.lt)
          rw [show joinO ⟨o.tl + 1, o.tl, o.ids⟩ o = ⟨0, 0, []⟩ by simp [joinO, oA]] at hjj
          go_wp2_with fail
          refine hjj.mono ?_
          rintro e w12 ⟨v12, rfl, h12, hb12⟩
          obtain ⟨a12, c12, rfl⟩ := pOwns_slice h12
          have hf : Sem.run Tryd.prog (Instr.field 25 (.agg #[.int .i64 0, .int .i64 0, .slice a12 0 c12]) 1) w12 = Result.ok (.int .i64 0) w12 := by
            first | rfl | kernel_rfl | (simp [go_sem, Tryd.underlying25]; done)
          go_wp2_with fail
          go_meet
          exact k8.trans ((b911.trans (hb12.mono b911.size)).mono k8.size)
    case rest =>
      obtain ⟨w5', hw5'⟩ : ∃ w5', wc = w5' := ⟨_, rfl⟩
      have hb5' : Below w5.heap.size w5 w5' := by rw [← hw5']; exact hcut
      rw [hw5']
      clear hcut hw5'
      have b0T := b05.trans (hb5'.mono b05.size)
      have hoccT := (hocc4.below hb5).below hb5'
      go_wp2_with fail
      refine (specOccsOk_any al cl m _ hoccT).mono ?_
      rintro e w6 ⟨rfl, hb6⟩
      have b06 := b0T.trans (hb6.mono b0T.size)
      have hocc6 := hoccT.below hb6
      rw [Hbl.out]
      cases bl
      · go_wp2
        go_ret
        exact ⟨rfl, b06⟩
      · cases m with
        | nil =>
          simp only [List.length_nil]
          go_wp2
          go_ret
          exact ⟨rfl, b06⟩
        | cons y s =>
          obtain ⟨N, hN⟩ : ∃ N, (y :: s).length = N := ⟨_, rfl⟩
          have HN : Hid ((y :: s).length = N) := hN
          have hN0 : 0 < N := by rw [← hN]; simp
          have hN7 : N ≤ 7 := by rw [← hN]; exact hm7
          rw [hN]
          clear hN
          have hNz : ((N : Int) == 0) = false := by simp; omega
          obtain ⟨b, off, rfl, hblt, hcc⟩ := hocc6.cells (by simp)
          obtain ⟨M, hMl, hMc, hMi⟩ := cells_of_occs _ off hocc6
          have hMN : M.length = N := by have := congrArg List.length hMl; rw [HN.out] at this; simpa using this
          obtain ⟨d0, d1, q, cq, d2, hiq⟩ := hcc 0 (by simp)
          simp only [Nat.zero_mul, Nat.add_zero, List.getElem_cons_zero] at d0 d1 d2 hiq
          have k0 : Below w6.heap.size w6 w6.drew := (Below.refl _ _).drew
          have HMN : Hid (M.length = N) := hMN
          have HMc : Hid (∀ j u, (ocCells M)[j]? = some u → w6.cell? ((⟨b, off, none⟩ : Addr).add j) = some u) := hMc
          have HMi : Hid (∀ x ∈ M, Ints w6 x.a x.o.ids) := hMi
          clear hcc hMN hMc hMi
          go_wp2_with fail
          refine wp_join (fun a0 a1 w' => ∃ E S v5 a6 c6, a1 = putSlots a0 [(78, .slice (some ⟨E, 0, none⟩) 0 0), (79, .slice (some ⟨b, off, none⟩) N cl), (80, v5), (81, .slice (some ⟨b, off, none⟩) N cl), (82, .pointer (some ⟨b, off, none⟩)), (83, .agg #[.int .i64 y.fr, .int .i64 y.tl, .slice q y.ids.length cq]), (84, .slice (some ⟨S, 0, none⟩) 1 1), (85, .slice a6 (N + 1) c6), (8, .slice a6 (N + 1) c6)] ∧
              w'.ownsRow w6.heap.size 25 3 (.slice a6 (N + 1) c6) (N + 1) (ocCells (M ++ [⟨y, q, cq⟩])) ∧ Below w6.heap.size w6 w') ?_ ?_
          · obtain ⟨v0, hv0⟩ : ∃ v0, w6.drew = v0 := ⟨_, rfl⟩
            have sv0 : w6.heap.size = v0.heap.size := by rw [← hv0]; rfl
            have kv : Below w6.heap.size w6 v0 := by rw [← hv0]; exact k0
            have oE : (v0.alloc (.cells #[] 25)).ownsRow w6.heap.size 25 3 (.slice (some ⟨v0.heap.size, 0, none⟩) 0 0) 0 [] := World.ownsRow_made _ _ _ (Nat.le_of_eq sv0) (by simp [maxLen]) rfl
            have kE : Below w6.heap.size w6 (v0.alloc (.cells #[] 25)) := kv.alloc kv.size _
            have z1 : v0.heap.size < (v0.alloc (.cells #[] 25)).heap.size := by simp
            obtain ⟨W1, hW1⟩ : ∃ W1, v0.alloc (.cells #[] 25) = W1 := ⟨_, rfl⟩
            rw [hW1] at oE kE z1
            have oES : (W1.alloc (.cells #[.int .i64 y.fr, .int .i64 y.tl, .slice q y.ids.length cq] 25)).ownsRow w6.heap.size 25 3 (.slice (some ⟨v0.heap.size, 0, none⟩) 0 0) 0 [] := pOwns_below oE (oBelow_new _ _)
            have kES : Below w6.heap.size w6 (W1.alloc (.cells #[.int .i64 y.fr, .int .i64 y.tl, .slice q y.ids.length cq] 25)) := kE.alloc kE.size _
            have sES : (W1.alloc (.cells #[.int .i64 y.fr, .int .i64 y.tl, .slice q y.ids.length cq] 25)).heap[W1.heap.size]? = some (.cells #[.int .i64 y.fr, .int .i64 y.tl, .slice q y.ids.length cq] 25 (0, 0)) := heap_alloc_new W1 _
            have z2 : W1.heap.size < (W1.alloc (.cells #[.int .i64 y.fr, .int .i64 y.tl, .slice q y.ids.length cq] 25)).heap.size := by simp
            obtain ⟨W2, hW2⟩ : ∃ W2, W1.alloc (.cells #[.int .i64 y.fr, .int .i64 y.tl, .slice q y.ids.length cq] 25) = W2 := ⟨_, rfl⟩
            rw [hW2] at oES kES sES z2
            have kS : Below w6.heap.size w6 (v0.alloc (.cells #[.int .i64 y.fr, .int .i64 y.tl, .slice q y.ids.length cq] 25)) := kv.alloc kv.size _
            have z3 : v0.heap.size < (v0.alloc (.cells #[.int .i64 y.fr, .int .i64 y.tl, .slice q y.ids.length cq] 25)).heap.size := by simp
            have sS : (v0.alloc (.cells #[.int .i64 y.fr, .int .i64 y.tl, .slice q y.ids.length cq] 25)).heap[v0.heap.size]? = some (.cells #[.int .i64 y.fr, .int .i64 y.tl, .slice q y.ids.length cq] 25 (0, 0)) := heap_alloc_new v0 _
            obtain ⟨W3a, hW3a⟩ : ∃ W3a, v0.alloc (.cells #[.int .i64 y.fr, .int .i64 y.tl, .slice q y.ids.length cq] 25) = W3a := ⟨_, rfl⟩
            rw [hW3a] at kS z3 sS
            have oSE : (W3a.alloc (.cells #[] 25)).ownsRow w6.heap.size 25 3 (.slice (some ⟨W3a.heap.size, 0, none⟩) 0 0) 0 [] := World.ownsRow_made _ _ _ kS.size (by simp [maxLen]) rfl
            have kSE : Below w6.heap.size w6 (W3a.alloc (.cells #[] 25)) := kS.alloc kS.size _
            have sSE : (W3a.alloc (.cells #[] 25)).heap[v0.heap.size]? = some (.cells #[.int .i64 y.fr, .int .i64 y.tl, .slice q y.ids.length cq] 25 (0, 0)) := (Below.heap_alloc W3a (.cells #[] 25) v0.heap.size (by omega)).trans sS
            have z4 : W3a.heap.size < (W3a.alloc (.cells #[] 25)).heap.size := by simp
            obtain ⟨W3, hW3⟩ : ∃ W3, W3a.alloc (.cells #[] 25) = W3 := ⟨_, rfl⟩
            rw [hW3] at oSE kSE sSE z4
            have e0 := (kv.cell (p := ⟨b, off, none⟩) hblt).trans d0
            have e1 := (kv.cell (p := ⟨b, off + 1, none⟩) hblt).trans d1
            have e2 := (kv.cell (p := ⟨b, off + 2, none⟩) hblt).trans d2
            have e3 := (kE.cell (p := ⟨b, off, none⟩) hblt).trans d0
            have e4 := (kE.cell (p := ⟨b, off + 1, none⟩) hblt).trans d1
            have e5 := (kE.cell (p := ⟨b, off + 2, none⟩) hblt).trans d2
            have R1 := app_list (cl := cl) (M := M) kE oE hblt HMc.out HMN.out hN7
            have R2 := app_list (cl := cl) (M := M) kES oES hblt HMc.out HMN.out hN7
            have R3 := app_list (cl := cl) (M := M) kSE oSE hblt HMc.out HMN.out hN7
            have H1 : Hid _ := R1
            have H2 : Hid _ := R2
            have H3 : Hid _ := R3
            clear R1 R2 R3 oE oES oSE kE kES kSE kS kv k0
            go_region_law (first
              | (have kk := S5; clear kk; obtain ⟨v6, w7, hrun6, y1, y2⟩ := app_one (y := ⟨y, q, cq⟩) q4 q1 HMN.out hN7 S5; refine step_append_run rfl (.tmp 80) (.tmp 84) 27 rfl _ _ rfl rfl hrun6 ?_; obtain ⟨a6, c6, rfl⟩ := pOwns_slice y1; clear hrun6)
              | (have kk := q4; clear kk; obtain ⟨v6, w7, hrun6, y1, y2⟩ := app_one (W := w5.alloc (.cells #[.int .i64 y.fr, .int .i64 y.tl, .slice q y.ids.length cq] 25)) (S := w5.heap.size) (y := ⟨y, q, cq⟩) (q4.alloc q4.size _) (pOwns_below q1 (oBelow_new _ _)) HMN.out hN7 (heap_alloc_new w5 _); refine step_append_run rfl (.tmp 80) (.tmp 84) 27 rfl _ _ rfl rfl hrun6 ?_; obtain ⟨a6, c6, rfl⟩ := pOwns_slice y1; clear hrun6)
              | (rw [← hW2]; rw [hW2]; obtain ⟨v5, w5, hrun5, q1, q2, q3, q4⟩ := H2.out; refine step_append_run rfl (.tmp 78) (.tmp 79) 27 rfl _ _ rfl rfl hrun5 ?_; have g0 := (q4.cell (p := ⟨b, off, none⟩) hblt).trans d0; have g1 := (q4.cell (p := ⟨b, off + 1, none⟩) hblt).trans d1; have g2 := (q4.cell (p := ⟨b, off + 2, none⟩) hblt).trans d2; have S5 := (q2.block W1.heap.size z2 (fun e => by have : W1.heap.size = v0.heap.size := (by simpa using e); omega)).trans sES; clear hrun5)
              | (rw [← hW3]; rw [hW3]; obtain ⟨v5, w5, hrun5, q1, q2, q3, q4⟩ := H3.out; refine step_append_run rfl (.tmp 78) (.tmp 79) 27 rfl _ _ rfl rfl hrun5 ?_; have g0 := (q4.cell (p := ⟨b, off, none⟩) hblt).trans d0; have g1 := (q4.cell (p := ⟨b, off + 1, none⟩) hblt).trans d1; have g2 := (q4.cell (p := ⟨b, off + 2, none⟩) hblt).trans d2; have S5 := (q2.block v0.heap.size (by omega) (fun e => by have : v0.heap.size = W3a.heap.size := (by simpa using e); omega)).trans sSE; clear hrun5)
              | (obtain ⟨v5, w5, hrun5, q1, q2, q3, q4⟩ := H1.out; refine step_append_run rfl (.tmp 78) (.tmp 79) 27 rfl _ _ rfl rfl hrun5 ?_; have g0 := (q4.cell (p := ⟨b, off, none⟩) hblt).trans d0; have g1 := (q4.cell (p := ⟨b, off + 1, none⟩) hblt).trans d1; have g2 := (q4.cell (p := ⟨b, off + 2, none⟩) hblt).trans d2; clear hrun5))
            all_goals first
              | (refine ⟨v0.heap.size, w5.heap.size, v5, a6, c6, ?_, y1, y2⟩; simp only [Act.put, List.getElem_toArray, List.getElem_cons_zero, List.getElem_cons_succ, List.setIfInBounds_toArray, List.set_cons_zero, List.set_cons_succ, putSlots, List.foldl_cons, List.foldl_nil]; done)
              | (refine ⟨v0.heap.size, W1.heap.size, v5, a6, c6, ?_, y1, y2⟩; simp only [Act.put, List.getElem_toArray, List.getElem_cons_zero, List.getElem_cons_succ, List.setIfInBounds_toArray, List.set_cons_zero, List.set_cons_succ, putSlots, List.foldl_cons, List.foldl_nil]; done)
              | (refine ⟨W3a.heap.size, v0.heap.size, v5, a6, c6, ?_, y1, y2⟩; simp only [Act.put, List.getElem_toArray, List.getElem_cons_zero, List.getElem_cons_succ, List.setIfInBounds_toArray, List.set_cons_zero, List.set_cons_succ, putSlots, List.foldl_cons, List.foldl_nil]; done)
          · rintro a1 w7 ⟨E, S, v5, a6, c6, rfl, hrow7, hb7⟩
            simp only [putSlots, List.foldl_cons, List.foldl_nil, List.setIfInBounds_toArray, List.set_cons_succ, List.set_cons_zero]
            have b07 := b06.trans (hb7.mono b06.size)
            have hocc7 : Occs w7 a6 (y :: s ++ [y]) := by
              have hr : w7.ownsRow w6.heap.size 25 3 (.slice a6 (N + 1) c6) (M ++ [(⟨y, q, cq⟩ : OC)]).length (ocCells (M ++ [⟨y, q, cq⟩])) := by
                rw [List.length_append, HMN.out]; exact hrow7
              have := row_occs hr (fun x hx => by
                rcases List.mem_append.1 hx with hx | hx
                · exact (HMi.out x hx).below hb7
                · simp at hx; subst hx; exact hiq.below hb7)
              rw [List.map_append, hMl] at this
              exact this
            have hlen7 : Hid ((y :: s ++ [y]).length = N + 1) := by show _ = _; rw [List.length_append, HN.out]; rfl
            have hbad : occsOkB (y :: s ++ [y]) = false := twice_bad Hbl.out
            have hio7 := implOccsOk_any a6 c6 (y :: s ++ [y]) w7 hocc7
            rw [hlen7.out, hbad] at hio7
            have f0 := (hb7.cell (p := ⟨b, off, none⟩) hblt).trans d0
            have f1 := (hb7.cell (p := ⟨b, off + 1, none⟩) hblt).trans d1
            have f2 := (hb7.cell (p := ⟨b, off + 2, none⟩) hblt).trans d2
            have hputs : putsF (y :: s ++ [y]) y = [] := by unfold putsF; rw [hbad]; rfl
            clear hrow7
            go_wp2_with fail
            refine hio7.mono ?_
            rintro e w8 ⟨rfl, hb8⟩
            have b08 := b07.trans (hb8.mono b07.size)
            have hb78 := hb7.trans (hb8.mono hb7.size)
            have hput8 := implOccsPut_any a6 c6 (y :: s ++ [y]) y q cq w8 (hocc7.below hb8) (hiq.below hb78)
            rw [hlen7.out, hputs] at hput8
            clear f0 f1 f2 hio7
            have f0 := (hb78.cell (p := ⟨b, off, none⟩) hblt).trans d0
            have f1 := (hb78.cell (p := ⟨b, off + 1, none⟩) hblt).trans d1
            have f2 := (hb78.cell (p := ⟨b, off + 2, none⟩) hblt).trans d2
            go_wp2_with fail
            refine hput8.mono ?_
            rintro e w9 ⟨v9, L9, rfl, hL9, hO9, hb9⟩
            obtain ⟨a9, c9, rfl⟩ := pOwns_slice hO9.row
            have hL0 : L9.length = 0 := by have := congrArg List.length hL9; simpa using this
            rw [hL0]
            go_wp2
            go_ret
            exact ⟨rfl, b08.trans (hb9.mono b08.size)⟩

theorem gTabType : (Tryd.prog.globals[0]?).map (·.type) = some 66 := by kernel_rfl
theorem cellsTab : Tryd.prog.cellsOf 66 = 32 := by kernel_rfl
theorem cellsWord : Tryd.prog.cellsOf 5 = 1 := by kernel_rfl
theorem table {W : World} (h : laidMetH Tryd.prog Rows.fnOccBentRow.laid W) : Lib.TabIs Tryd.prog W "math/bits.deBruijn32tab" .u8 tzTab := by
  have h1 := h.filter (fun x => x.1 == "math/bits.deBruijn32tab")
  have e : Rows.fnOccBentRow.laid.filter (fun x => x.1 == "math/bits.deBruijn32tab") = [("math/bits.deBruijn32tab", Lib.tabData .u8 tzTab)] := by kernel_rfl
  rw [e] at h1
  exact Lib.tabIs_of_head (rest := []) bGlob gTabType Tryd.underlying66 Tryd.underlying5 cellsWord cellsTab h1

theorem contract (H : Type) (enc : TypeId × Value → H) (W : World) (base : Nat) (args : Array Value) (ds gs : List (DataW H)) (before : List MemPlace)
    (hval : ∀ (j : Nat) t v, Tryd.f3.params[j]? = some t → args[j]? = some v → Value.okWide Tryd.prog W .any base t v)
    (hW : DataW.Whole enc Tryd.prog Tryd.f3.params.toList Rows.fnOccBentSpec.vars false W args.toList ds gs before) (hL : laidMetH Tryd.prog Rows.fnOccBentRow.laid W) :
    Calls Tryd.prog 3 args W fun e W' => ∃ v, e = .returned v ∧ Rows.fnOccBentSpec.post enc Tryd.prog Tryd.f3 false true false false W args v W' := by
  have hW' := hW
  obtain ⟨p, q, hA0, hV, rfl, hfz, hnd⟩ := hW
  have hA : DataW.TrodAll enc Tryd.prog W 0 (fun _ => true) true Tryd.f3.params.toList args.toList ds p := hA0
  rw [Tryd.params3] at hA hval
  obtain ⟨v0, vs0, d0, ds0, p0, q0, hargs, rfl, rfl, h0, r0⟩ := trodAll_cons hA
  obtain ⟨rfl, rfl, rfl⟩ := trodAll_nil r0
  obtain rfl : args = #[v0] := by cases args; simp_all
  obtain ⟨rfl, rfl⟩ := trodVars_none hV
  have k0 := h0
  have lt0 : ∀ x ∈ p0, x.block < W.heap.size := by obtain ⟨m, hm⟩ := k0; exact DataW.trod_lt m _ _ _ hm
  obtain ⟨a0, cap0, bs0, rfl, e0⟩ := open_bytes (hval 0 22 v0 rfl rfl) h0
  clear hA0
  refine (walk a0 cap0 bs0 W e0 (table hL)).mono fun e W' ⟨he, bel⟩ => ?_
  subst he
  exact ⟨_, rfl, _, _, _, [], _, [], hW', trodAll_mk1 (shut_bool Tryd.underlying4 _), (trodAll_cons_mk (Below.trod laidOut (by kernel_rfl) (of_decide_eq_true (by kernel_rfl)) k0 bel lt0) trodAll_mk0), rfl, bel.frame _, fun h => by cases h⟩

theorem laid_met (os : Os) : laidMet Tryd.prog Rows.fnOccBentRow.laid (({ World.holding Tryd.prog os ⟨#[], #[], []⟩ with heap := ((World.holding Tryd.prog os ⟨#[], #[], []⟩).heap.modify 0 fun
      | .cells _ t frozen => .cells #[.int .u8 0, .int .u8 1, .int .u8 28, .int .u8 2, .int .u8 29, .int .u8 14, .int .u8 24, .int .u8 3, .int .u8 30, .int .u8 22, .int .u8 20, .int .u8 15, .int .u8 25, .int .u8 17, .int .u8 4, .int .u8 8, .int .u8 31, .int .u8 27, .int .u8 13, .int .u8 23, .int .u8 21, .int .u8 19, .int .u8 16, .int .u8 7, .int .u8 26, .int .u8 12, .int .u8 18, .int .u8 6, .int .u8 11, .int .u8 5, .int .u8 10, .int .u8 9] t frozen
      | o => o) } : World).forCall (fun _ _ => 0) ⟨#[], #[.slice none 0 0], []⟩).memory :=
  laidMet_of_run' 8 (by kernel_rfl) (by kernel_rfl)
theorem reads (os : Os) {H : Type} (enc : TypeId × Value → H) : ∃ places, DataW.whole enc Tryd.prog (({ World.holding Tryd.prog os ⟨#[], #[], []⟩ with heap := ((World.holding Tryd.prog os ⟨#[], #[], []⟩).heap.modify 0 fun
      | .cells _ t frozen => .cells #[.int .u8 0, .int .u8 1, .int .u8 28, .int .u8 2, .int .u8 29, .int .u8 14, .int .u8 24, .int .u8 3, .int .u8 30, .int .u8 22, .int .u8 20, .int .u8 15, .int .u8 25, .int .u8 17, .int .u8 4, .int .u8 8, .int .u8 31, .int .u8 27, .int .u8 13, .int .u8 23, .int .u8 21, .int .u8 19, .int .u8 16, .int .u8 7, .int .u8 26, .int .u8 12, .int .u8 18, .int .u8 6, .int .u8 11, .int .u8 5, .int .u8 10, .int .u8 9] t frozen
      | o => o) } : World).forCall (fun _ _ => 0) ⟨#[], #[.slice none 0 0], []⟩).memory Tryd.f3.params.toList Rows.fnOccBentSpec.vars false (#[.slice none 0 0] : Array Value).toList 8 = some ([.nil], [], places) :=
  ⟨[], by kernel_rfl⟩

set_option maxRecDepth 100000 in
theorem lifted (os : Os) (started : os.Started) (H : Type) (enc : TypeId × Value → H) (F : Stop.Interp) :
    ReturnsInHanded {} Tryd.checked os 3 .any ((OpenSpec.ofChange Rows.fnOccBentSpec).preRow enc Tryd.prog Tryd.f3 Rows.fnOccBentRow.domain false Rows.fnOccBentRow.laid) (((OpenSpec.ofChange Rows.fnOccBentSpec).at F).post enc Tryd.prog Tryd.f3 false true false false) := by
  obtain ⟨places, hx⟩ := reads os enc
  refine returnsInHanded_of_row (C := Tryd.checked) (s := OpenSpec.ofChange Rows.fnOccBentSpec) own started (by kernel_rfl) Tryd.func3
    (witness_row_at (enc := enc) (C := Tryd.checked) false ({ World.holding Tryd.prog os ⟨#[], #[], []⟩ with heap := ((World.holding Tryd.prog os ⟨#[], #[], []⟩).heap.modify 0 fun
      | .cells _ t frozen => .cells #[.int .u8 0, .int .u8 1, .int .u8 28, .int .u8 2, .int .u8 29, .int .u8 14, .int .u8 24, .int .u8 3, .int .u8 30, .int .u8 22, .int .u8 20, .int .u8 15, .int .u8 25, .int .u8 17, .int .u8 4, .int .u8 8, .int .u8 31, .int .u8 27, .int .u8 13, .int .u8 23, .int .u8 21, .int .u8 19, .int .u8 16, .int .u8 7, .int .u8 26, .int .u8 12, .int .u8 18, .int .u8 6, .int .u8 11, .int .u8 5, .int .u8 10, .int .u8 9] t frozen
      | o => o) } : World) #[.slice none 0 0] rfl (by kernel_rfl) (by kernel_rfl) (by kernel_rfl)
      (OpenSpec.preRow_of_cond 8 hx (by kernel_rfl) (fun k hk => by cases hk) (by kernel_rfl) (laid_met os))) ?_
  intro W base args ds gs before hval hW _ _ _ hL _ _
  exact contract H enc W base args ds gs before hval hW hL

theorem said : Rows.FnOccBentSaid :=
  OpenClaim.holds_of_cond 3 Tryd.f3 rfl rfl rfl rfl rfl rfl rfl ⟨rfl, rfl, rfl, rfl, rfl⟩ rfl rfl rfl rfl rfl (by kernel_rfl) Tryd.func3 (by kernel_rfl)
    (of_decide_eq_true (by kernel_rfl)) (by unfold Func.isWrapper; first | (rw [if_pos (by decide +kernel)]; kernel_rfl) | (rw [if_neg (by decide +kernel)]; exact ⟨rfl, rfl⟩))
    (fun os started H enc _ F => by rw [OpenClaim.pre_eq_preRow]; exact lifted os started H enc F)

theorem plain (f : FuncId) (fn : Func) (hf : Tryd.pinned.checked.prog.funcNamed "loop.example/bellman/laws.FnOccBent" = some f) (hfn : Tryd.pinned.checked.prog.funcs[f]? = some fn) :
    false = Tryd.pinned.checked.prog.looks [] ∧ ∀ (j : Nat) t, fn.params[j]? = some t → Tryd.pinned.checked.prog.wantsStandIn t = false := by
  obtain rfl : f = 3 := Option.some.inj ((show Tryd.prog.funcNamed "loop.example/bellman/laws.FnOccBent" = some 3 by kernel_rfl).symm.trans hf) |>.symm
  obtain rfl : fn = Tryd.f3 := (Option.some.inj (Tryd.func3.symm.trans hfn)).symm
  refine ⟨by kernel_rfl, fun j t ht => ?_⟩
  rw [Tryd.params3] at ht
  have hm := Array.mem_of_getElem? ht
  simp only [List.mem_toArray, List.mem_cons, List.not_mem_nil, or_false] at hm
  rcases hm with rfl
  · exact (show Tryd.prog.wantsStandIn 22 = false by kernel_rfl)

theorem card : Rows.FnOccBentCardSaid :=
  Claim7.holds_tied_plain_at .later [] _ _ _ _ said (fun _ h => by cases h) (by kernel_rfl) (fun _ h => by cases h) fnOccBent_row_tie rfl ⟨rfl, rfl⟩ (by kernel_rfl) rfl plain (by kernel_rfl)
end Go.Proofs.YteifbckkoejplaaDoor.fnOccBent
namespace Go.Proofs.YteifbckkoejplaaDoor
theorem fnOccBent_holds : Rows.FnOccBentCardSaid := fnOccBent.card
#print axioms fnOccBent_holds
end Go.Proofs.YteifbckkoejplaaDoor

