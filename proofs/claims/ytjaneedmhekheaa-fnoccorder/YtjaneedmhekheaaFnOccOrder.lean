/- Whatever is drawn: the order of places is a strict total order: of three the first is ahead of the last, if it is ahead of the second, and that of the last; none is ahead of itself; in a list that is ok the first is ahead of all; the program's OccLess, OccsSame and OccsOk answer as the specification's. -/
import Derived.Test.YtjaneedmhekheaaDraw7
import Derived.Test.YtjaneedmhekheaaOccOrd
import Derived.BigQuiet
import Derived.Deep.CutRange
import Derived.Deep.DeepCutAuto
namespace Go.Proofs.Ytjaneedmhekheaa.fnOccOrder
open Go.ChangeShapes Go.WideShapes Go.ChangeAt Go.RowKit
set_option linter.unusedVariables false
set_option maxRecDepth 4000
/-- A place in its box. -/
structure In (w : World) (B : Nat) (o : Occ) (a : Option Addr) (c : Nat) : Prop where
  raw : w.heap[B]? = some (.cells #[.int .i64 o.fr, .int .i64 o.tl, .slice a o.ids.length c] 25 (0, 0))
  ids : Ints w a o.ids
theorem In.lt {w : World} {B c : Nat} {o : Occ} {a : Option Addr} (h : In w B o a c) : B < w.heap.size := (Array.getElem?_eq_some_iff.1 h.raw).1
theorem In.cells {w : World} {B c : Nat} {o : Occ} {a : Option Addr} (h : In w B o a c) : w.cell? ⟨B, 0, none⟩ = some (.int .i64 o.fr) ∧ w.cell? ⟨B, 1, none⟩ = some (.int .i64 o.tl) ∧ w.cell? ⟨B, 2, none⟩ = some (.slice a o.ids.length c) := ⟨oCell h.raw 0, oCell h.raw 1, oCell h.raw 2⟩
theorem In.soft {w : World} {B c : Nat} {o : Occ} {a : Option Addr} (h : In w B o a c) : ∀ i, w.frozen? ⟨B, i, none⟩ = false := fun i => by simp [World.frozen?, h.raw]
theorem In.below {w w' : World} {B c : Nat} {o : Occ} {a : Option Addr} (h : In w B o a c) (hb : Below w.heap.size w w') : In w' B o a c := ⟨(hb.block B h.lt).trans h.raw, h.ids.below hb⟩
theorem ints_only {w w' : World} {R : Nat} {l : List Int} {a : Option Addr} (h : Ints w a l) (hg : w.grownBy w' (some R)) (ha : ∀ q, a = some q → 0 < l.length → R ≠ q.block) : Ints w' a l :=
  ⟨h.len, fun hl => by
    obtain ⟨b, off, e, hlt, hc⟩ := h.cells hl
    refine ⟨b, off, e, Nat.lt_of_lt_of_le hlt hg.size, fun i hi => ?_⟩
    rw [World.cell?_of_block (w := w) (hg.block b hlt (fun e' => ha _ e hl (Option.some.inj e').symm))]
    exact hc i hi⟩
theorem In.only {w w' : World} {B c R : Nat} {o : Occ} {a : Option Addr} (h : In w B o a c) (hg : w.grownBy w' (some R)) (hB : R ≠ B) (ha : ∀ q, a = some q → 0 < o.ids.length → R ≠ q.block) : In w' B o a c :=
  ⟨(hg.block B h.lt (fun e => hB (Option.some.inj e).symm)).trans h.raw, ints_only h.ids hg ha⟩
/-- A place is written over another one. -/
theorem In.put {w : World} {B c c' : Nat} {o o' : Occ} {a a' : Option Addr} (h : In w B o a c) (hi : Ints w a' o'.ids) (ha : ∀ q, a' = some q → 0 < o'.ids.length → B ≠ q.block) :
    In (((w.setCell ⟨B, 0, none⟩ (.int .i64 o'.fr)).setCell ⟨B, 1, none⟩ (.int .i64 o'.tl)).setCell ⟨B, 2, none⟩ (.slice a' o'.ids.length c')) B o' a' c' :=
  ⟨by simp [World.setCell, Array.getElem?_modify, h.raw], ints_only hi (grownBy_setCell (grownBy_setCell (grownBy_setCell (grownBy_refl _ _) _) _) _) ha⟩
theorem put_grown (w : World) (B : Nat) (u0 u1 u2 : Value) : w.grownBy (((w.setCell ⟨B, 0, none⟩ u0).setCell ⟨B, 1, none⟩ u1).setCell ⟨B, 2, none⟩ u2) (some B) := grownBy_setCell (grownBy_setCell (grownBy_setCell (grownBy_refl _ _) _) _) _
theorem in_two (w1 : World) (oa ob : Occ) (aa ab : Option Addr) (ca cb : Nat) (ha : Ints w1 aa oa.ids) (hb : Ints w1 ab ob.ids) :
    In ((w1.alloc (.cells #[.int .i64 oa.fr, .int .i64 oa.tl, .slice aa oa.ids.length ca] 25)).alloc (.cells #[.int .i64 ob.fr, .int .i64 ob.tl, .slice ab ob.ids.length cb] 25)) w1.heap.size oa aa ca ∧
    In ((w1.alloc (.cells #[.int .i64 oa.fr, .int .i64 oa.tl, .slice aa oa.ids.length ca] 25)).alloc (.cells #[.int .i64 ob.fr, .int .i64 ob.tl, .slice ab ob.ids.length cb] 25)) (w1.heap.size + 1) ob ab cb ∧
    Below w1.heap.size w1 ((w1.alloc (.cells #[.int .i64 oa.fr, .int .i64 oa.tl, .slice aa oa.ids.length ca] 25)).alloc (.cells #[.int .i64 ob.fr, .int .i64 ob.tl, .slice ab ob.ids.length cb] 25)) := by
  have hbb := below_two w1 (.cells #[.int .i64 oa.fr, .int .i64 oa.tl, .slice aa oa.ids.length ca] 25) (.cells #[.int .i64 ob.fr, .int .i64 ob.tl, .slice ab ob.ids.length cb] 25)
  have h2 := heap_alloc_new (w1.alloc (.cells #[.int .i64 oa.fr, .int .i64 oa.tl, .slice aa oa.ids.length ca] 25)) (.cells #[.int .i64 ob.fr, .int .i64 ob.tl, .slice ab ob.ids.length cb] 25)
  rw [World.size_alloc] at h2
  exact ⟨⟨(Below.heap_alloc _ _ _ (by simp)).trans (heap_alloc_new w1 _), ha.below hbb⟩, ⟨h2, hb.below hbb⟩, hbb⟩
set_option maxHeartbeats 2000000 in
theorem walk (a0 : Option Addr) (cap0 : Nat) (c0 : List Int) (a1 : Option Addr) (cap1 : Nat) (c1 : List Int) (w : World) (h0 : Bytes w a0 c0 ∧ c0.length ≤ cap0) (h1 : Bytes w a1 c1 ∧ c1.length ≤ cap1) :
    Calls Try.prog 3 #[.slice a0 c0.length cap0, .slice a1 c1.length cap1] w fun e w' => e = .returned (.bool true) ∧ Below w.heap.size w w' := by
  have hm0 := h0.1.len
  have hm1 := h1.1.len
  unfold maxLen at hm0 hm1
  by_cases hbig : (1048576 : Int) < (c0.length : Int)
  · go_enter Try.func3, Try.ntmps3
    go_wp2
    go_ret
    exact ⟨rfl, Below.refl _ _⟩
  by_cases hbig1 : (1048576 : Int) < (c1.length : Int)
  · go_enter Try.func3, Try.ntmps3
    go_wp2
    go_ret
    exact ⟨rfl, Below.refl _ _⟩
  go_enter Try.func3, Try.ntmps3
  go_wp2_with fail
  refine (drawOccLess_any a0 cap0 c0 w h0.1 h0.2).mono ?_
  rintro e w1 ⟨oa, ob, aa, ab, ca, cb, rfl, hoka, hokb, hia, hib, hb1⟩
  obtain ⟨hA2, hB2, hb2⟩ := in_two w1 oa ob aa ab ca cb hia hib
  obtain ⟨w2, hw2⟩ : ∃ w2, (w1.alloc (.cells #[.int .i64 oa.fr, .int .i64 oa.tl, .slice aa oa.ids.length ca] 25)).alloc (.cells #[.int .i64 ob.fr, .int .i64 ob.tl, .slice ab ob.ids.length cb] 25) = w2 := ⟨_, rfl⟩
  rw [hw2] at hA2 hB2 hb2
  have b2 := hb1.trans (hb2.mono hb1.size)
  have hd2 := drawOccLess_any a1 cap1 c1 w2 (h1.1.below b2) h1.2
  go_wp2_with fail
  refine hd2.mono ?_
  rintro e w3 ⟨oc, od, ac, ad, cc, cd, rfl, hokc, hokd, hic, hid, hb3⟩
  clear hw2 hd2
  obtain ⟨hC4, hD4, hb4⟩ := in_two w3 oc od ac ad cc cd hic hid
  obtain ⟨w4, hw4⟩ : ∃ w4, (w3.alloc (.cells #[.int .i64 oc.fr, .int .i64 oc.tl, .slice ac oc.ids.length cc] 25)).alloc (.cells #[.int .i64 od.fr, .int .i64 od.tl, .slice ad od.ids.length cd] 25) = w4 := ⟨_, rfl⟩
  rw [hw4] at hC4 hD4 hb4
  have b3 := b2.trans (hb3.mono b2.size)
  have b4 := b3.trans (hb4.mono b3.size)
  have hA4 := (hA2.below hb3).below hb4
  have hB4 := (hB2.below hb3).below hb4
  have lA := hA2.lt
  have lB := hB2.lt
  have s3 := hb3.size
  obtain ⟨A, hAe⟩ : ∃ A, w1.heap.size = A := ⟨_, rfl⟩
  obtain ⟨C, hCe⟩ : ∃ C, w3.heap.size = C := ⟨_, rfl⟩
  rw [hAe] at hA4 hB4 lA lB
  rw [hCe] at hC4 hD4 s3
  have hAC : A + 1 < C := by omega
  have HAw : Hid (w.heap.size ≤ A) := by have := hb1.size; show _ ≤ _; omega
  have Hsa : Small oa.ids := occOkB_small hoka
  have Hsb : Small ob.ids := occOkB_small hokb
  obtain ⟨x0, x1, x2⟩ := hA4.cells
  obtain ⟨y0, y1, y2⟩ := hB4.cells
  have fx0 := fun u : After w4 => u.cell x0 hA4.lt
  have fx1 := fun u : After w4 => u.cell x1 hA4.lt
  have fx2 := fun u : After w4 => u.cell x2 hA4.lt
  have fy0 := fun u : After w4 => u.cell y0 hB4.lt
  have fy1 := fun u : After w4 => u.cell y1 hB4.lt
  have fy2 := fun u : After w4 => u.cell y2 hB4.lt
  have hcA := fun (u : After w4) => calls_after (u := u) (implOccLess_any oa.fr oa.tl aa ca oa.ids ob.fr ob.tl ab cb ob.ids u.v (hA4.ids.below u.h) (hB4.ids.below u.h))
  have hcB := fun (u : After w4) => calls_after (u := u) (specOccLess_any oa.fr oa.tl aa ca oa.ids ob.fr ob.tl ab cb ob.ids u.v (hA4.ids.below u.h) (hB4.ids.below u.h) Hsa Hsb)
  obtain ⟨p, hp⟩ : ∃ p, lessB oa.fr oa.tl oa.ids ob.fr ob.tl ob.ids = p := ⟨_, rfl⟩
  have Hp : Hid (lessB oa.fr oa.tl oa.ids ob.fr ob.tl ob.ids = p) := hp
  rw [hp] at hcA hcB
  have hpp : (p != p) = false := by cases p <;> rfl
  have hany := after_any
  clear hp lA lB s3
  go_wp2
  refine wp_region_after (by kernel_rfl) (by kernel_rfl) ?_
  repeat (go_big_quiet_step (first | (go_at_call 5; refine hcA _) | (go_at_call 6; refine hcB _)))
  refine wpQuiet_nil ?_
  intro w5 hu
  have hb5 := after_of hu
  clear hu hcA hcB fx0 fx1 fx2 fy0 fy1 fy2 x0 x1 x2 y0 y1 y2 hpp
  have b5 := b4.trans (hb5.mono b4.size)
  have hA5 := hA4.below hb5
  have hB5 := hB4.below hb5
  have hC5 := hC4.below hb5
  have hD5 := hD4.below hb5
  clear hA2 hB2 hA4 hB4 hC4 hD4 hw4
  go_wp2_with fail
  have qA : ∀ q, aa = some q → 0 < oa.ids.length → C ≠ q.block := fun q h1 h2 => by have := hia.lt q h1 h2; omega
  have qB : ∀ q, ab = some q → 0 < ob.ids.length → C ≠ q.block := fun q h1 h2 => by have := hib.lt q h1 h2; omega
  have qD : ∀ q, ad = some q → 0 < od.ids.length → C ≠ q.block := fun q h1 h2 => by have := hid.lt q h1 h2; omega
  have irr : lessB oa.fr oa.tl oa.ids oa.fr oa.tl oa.ids = false := (oLess_not oa oa).2 (ocmp_irr oa)
  have Hirr : Hid (lessB oa.fr oa.tl oa.ids oa.fr oa.tl oa.ids = false) := irr
  have HwC : Hid (w.heap.size ≤ C) := by show _ ≤ _; have := HAw.out; omega
  clear irr hia hib hic hid hb1 hb2 hb3 hb4 b2 b3 b4 hb5 hAe hCe Hsa Hsb hoka hokb hokc hokd
  go_loopw [9] (fun vi wr => ∃ j : Nat, j ≤ 2 ∧ vi = .int .i64 j ∧ In wr A oa aa ca ∧ In wr (A + 1) ob ab cb ∧ (∃ (x : Occ) (ax : Option Addr) (cx : Nat), In wr C x ax cx) ∧ In wr (C + 1) od ad cd ∧ Below w.heap.size w wr) (fun vi _ => 2 - (intOf vi).toNat)
  case atStart => exact ⟨0, by omega, rfl, hA5, hB5, ⟨oc, ac, cc, hC5⟩, hD5, b5⟩
  case round =>
    obtain ⟨j, hj, rfl, hA, hB, ⟨x, ax, cx, hX⟩, hD, hbr⟩ := hrel
    by_cases hj2 : j < 2
    · have hj2' : (j : Int) < 2 := by omega
      clear hA5 hB5 hC5 hD5 b5
      obtain ⟨x0, x1, x2⟩ := hA.cells
      obtain ⟨y0, y1, y2⟩ := hB.cells
      obtain ⟨q, hq⟩ : ∃ q, lessB ob.fr ob.tl ob.ids x.fr x.tl x.ids = q := ⟨_, rfl⟩
      have Hq : Hid (lessB ob.fr ob.tl ob.ids x.fr x.tl x.ids = q) := hq
      clear hq
      go_wp2_with fail
      refine (implOccLess_any oa.fr oa.tl aa ca oa.ids ob.fr ob.tl ab cb ob.ids wr hA.ids hB.ids).mono ?_
      rintro e q1 ⟨rfl, k1⟩
      rw [Hp.out]
      clear x0 x1 x2 y0 y1 y2
      obtain ⟨x0, x1, x2⟩ := (hA.below k1).cells
      obtain ⟨y0, y1, y2⟩ := (hB.below k1).cells
      obtain ⟨z0, z1, z2⟩ := (hX.below k1).cells
      have hA1 := hA.below k1
      cases p
      · have kz : Hid (Below wr.heap.size wr q1) := k1
        go_wp2_with fail
        refine (implOccLess_any oa.fr oa.tl aa ca oa.ids oa.fr oa.tl aa ca oa.ids q1 (hA.below kz.out).ids (hA.below kz.out).ids).mono ?_
        rintro e qz ⟨rfl, hqz⟩
        have k := kz.out.trans (hqz.mono kz.out.size)
        rw [Hirr.out]
        clear x0 x1 x2 y0 y1 y2 z0 z1 z2
        obtain ⟨v0, v1, v2⟩ := (hD.below k).cells
        obtain ⟨z0, z1, z2⟩ := (hX.below k).cells
        have fz := (hX.below k).soft
        have hu := put_grown qz C (.int .i64 od.fr) (.int .i64 od.tl) (.slice ad od.ids.length cd)
        have eA := (hA.below k).only hu (by omega) qA
        have eB := (hB.below k).only hu (by omega) qB
        have eD := (hD.below k).only hu (by omega) qD
        have eC := (hX.below k).put (c' := cd) (hD.below k).ids qD
        have eb := below_grown (hbr.trans (k.mono hbr.size)) hu HwC.out (Nat.le_trans hbr.size k.size)
        generalize hU : ((qz.setCell ⟨C, 0, none⟩ (.int .i64 od.fr)).setCell ⟨C, 1, none⟩ (.int .i64 od.tl)).setCell ⟨C, 2, none⟩ (.slice ad od.ids.length cd) = U at *
        have E : Hid (In U A oa aa ca ∧ In U (A + 1) ob ab cb ∧ In U C od ad cd ∧ In U (C + 1) od ad cd ∧ Below w.heap.size w U) := ⟨eA, eB, eC, eD, eb⟩
        clear eA eB eC eD eb hu
        go_wp2
        exact ⟨⟨j + 1, by omega, by go_num, E.out.1, E.out.2.1, ⟨od, ad, cd, E.out.2.2.1⟩, E.out.2.2.2.1, E.out.2.2.2.2⟩, by simp [intOf]; omega⟩
      · go_wp2_with fail
        refine (implOccLess_any ob.fr ob.tl ab cb ob.ids x.fr x.tl ax cx x.ids q1 (hB.below k1).ids (hX.below k1).ids).mono ?_
        rintro e q2 ⟨rfl, k2'⟩
        have k2 := k1.trans (k2'.mono k1.size)
        rw [Hq.out]
        clear x0 x1 x2 y0 y1 y2 z0 z1 z2
        obtain ⟨x0, x1, x2⟩ := (hA.below k2).cells
        obtain ⟨y0, y1, y2⟩ := (hB.below k2).cells
        obtain ⟨z0, z1, z2⟩ := (hX.below k2).cells
        cases q
        · have kz : Hid (Below wr.heap.size wr q2) := k2
          go_wp2_with fail
          refine (implOccLess_any oa.fr oa.tl aa ca oa.ids oa.fr oa.tl aa ca oa.ids q2 (hA.below kz.out).ids (hA.below kz.out).ids).mono ?_
          rintro e qz ⟨rfl, hqz⟩
          have k := kz.out.trans (hqz.mono kz.out.size)
          rw [Hirr.out]
          clear x0 x1 x2 y0 y1 y2 z0 z1 z2
          obtain ⟨v0, v1, v2⟩ := (hD.below k).cells
          obtain ⟨z0, z1, z2⟩ := (hX.below k).cells
          have fz := (hX.below k).soft
          have hu := put_grown qz C (.int .i64 od.fr) (.int .i64 od.tl) (.slice ad od.ids.length cd)
          have eA := (hA.below k).only hu (by omega) qA
          have eB := (hB.below k).only hu (by omega) qB
          have eD := (hD.below k).only hu (by omega) qD
          have eC := (hX.below k).put (c' := cd) (hD.below k).ids qD
          have eb := below_grown (hbr.trans (k.mono hbr.size)) hu HwC.out (Nat.le_trans hbr.size k.size)
          generalize hU : ((qz.setCell ⟨C, 0, none⟩ (.int .i64 od.fr)).setCell ⟨C, 1, none⟩ (.int .i64 od.tl)).setCell ⟨C, 2, none⟩ (.slice ad od.ids.length cd) = U at *
          have E : Hid (In U A oa aa ca ∧ In U (A + 1) ob ab cb ∧ In U C od ad cd ∧ In U (C + 1) od ad cd ∧ Below w.heap.size w U) := ⟨eA, eB, eC, eD, eb⟩
          clear eA eB eC eD eb hu
          go_wp2
          exact ⟨⟨j + 1, by omega, by go_num, E.out.1, E.out.2.1, ⟨od, ad, cd, E.out.2.2.1⟩, E.out.2.2.2.1, E.out.2.2.2.2⟩, by simp [intOf]; omega⟩
        · have hac : lessB oa.fr oa.tl oa.ids x.fr x.tl x.ids = true := (oLess_iff oa x).2 (ocmp_trans oa ob x ((oLess_iff oa ob).1 Hp.out) ((oLess_iff ob x).1 Hq.out))
          have Hac : Hid (lessB oa.fr oa.tl oa.ids x.fr x.tl x.ids = true) := hac
          clear hac
          go_wp2_with fail
          refine (implOccLess_any oa.fr oa.tl aa ca oa.ids x.fr x.tl ax cx x.ids q2 (hA.below k2).ids (hX.below k2).ids).mono ?_
          rintro e q3 ⟨rfl, k3'⟩
          have k3 := k2.trans (k3'.mono k2.size)
          rw [Hac.out]
          clear x0 x1 x2 y0 y1 y2 z0 z1 z2
          obtain ⟨x0, x1, x2⟩ := (hA.below k3).cells
          obtain ⟨y0, y1, y2⟩ := (hB.below k3).cells
          obtain ⟨z0, z1, z2⟩ := (hX.below k3).cells
          have kz : Hid (Below wr.heap.size wr q3) := k3
          go_wp2_with fail
          refine (implOccLess_any oa.fr oa.tl aa ca oa.ids oa.fr oa.tl aa ca oa.ids q3 (hA.below kz.out).ids (hA.below kz.out).ids).mono ?_
          rintro e qz ⟨rfl, hqz⟩
          have k := kz.out.trans (hqz.mono kz.out.size)
          rw [Hirr.out]
          clear x0 x1 x2 y0 y1 y2 z0 z1 z2
          obtain ⟨v0, v1, v2⟩ := (hD.below k).cells
          obtain ⟨z0, z1, z2⟩ := (hX.below k).cells
          have fz := (hX.below k).soft
          have hu := put_grown qz C (.int .i64 od.fr) (.int .i64 od.tl) (.slice ad od.ids.length cd)
          have eA := (hA.below k).only hu (by omega) qA
          have eB := (hB.below k).only hu (by omega) qB
          have eD := (hD.below k).only hu (by omega) qD
          have eC := (hX.below k).put (c' := cd) (hD.below k).ids qD
          have eb := below_grown (hbr.trans (k.mono hbr.size)) hu HwC.out (Nat.le_trans hbr.size k.size)
          generalize hU : ((qz.setCell ⟨C, 0, none⟩ (.int .i64 od.fr)).setCell ⟨C, 1, none⟩ (.int .i64 od.tl)).setCell ⟨C, 2, none⟩ (.slice ad od.ids.length cd) = U at *
          have E : Hid (In U A oa aa ca ∧ In U (A + 1) ob ab cb ∧ In U C od ad cd ∧ In U (C + 1) od ad cd ∧ Below w.heap.size w U) := ⟨eA, eB, eC, eD, eb⟩
          clear eA eB eC eD eb hu
          go_wp2
          exact ⟨⟨j + 1, by omega, by go_num, E.out.1, E.out.2.1, ⟨od, ad, cd, E.out.2.2.1⟩, E.out.2.2.2.1, E.out.2.2.2.2⟩, by simp [intOf]; omega⟩
    · have hds := drawOccsSame_any a0 cap0 c0 wr (h0.1.below hbr) h0.2
      clear hA5 hB5 hC5 hD5 b5 hA hB hX hD
      go_wp2_with fail
      refine hds.mono ?_
      rintro e w6 ⟨al, bl, cl, dl, l, l', rfl, hl7, hl8, hl, hl', hwf, hwf', hb6⟩
      have b6 := hbr.trans (hb6.mono hbr.size)
      clear hds
      go_wp2_with fail
      refine (implOccsSame_any al bl cl dl l l' w6 hl hl').mono ?_
      rintro e w7 ⟨rfl, hb7⟩
      have b7 := b6.trans (hb7.mono b6.size)
      have hl_7 := hl.below hb7
      have hl'_7 := hl'.below hb7
      go_wp2_with fail
      refine (specOccsSame_any al bl cl dl l l' w7 hl_7 hl'_7 hwf hwf').mono ?_
      rintro e w8 ⟨rfl, hb8⟩
      have b8 := b7.trans (hb8.mono b7.size)
      have hl_8 := hl_7.below hb8
      obtain ⟨p8, hp8⟩ : ∃ p8, occsEqB l l' = p8 := ⟨_, rfl⟩
      rw [hp8]
      have hpp8 : (p8 != p8) = false := by cases p8 <;> rfl
      go_wp2_with fail
      refine (implOccsOk_any al cl l w8 hl_8).mono ?_
      rintro e w9 ⟨rfl, hb9⟩
      have b9 := b8.trans (hb9.mono b8.size)
      have hl_9 := hl_8.below hb9
      go_wp2_with fail
      refine (specOccsOk_any al cl l w9 hl_9).mono ?_
      rintro e w10 ⟨rfl, hb10⟩
      have b10 := b9.trans (hb10.mono b9.size)
      have hl_10 := hl_9.below hb10
      obtain ⟨p9, hp9⟩ : ∃ p9, occsOkB l = p9 := ⟨_, rfl⟩
      have Hp9 : Hid (occsOkB l = p9) := hp9
      rw [hp9]
      have hpp9 : (p9 != p9) = false := by cases p9 <;> rfl
      clear hp8 hp9 hl hl' hl_7 hl'_7 hl_8 hl_9 hb6 hb7 hb8 hb9 hb10 b6 b7 b8 b9 hwf hwf' hl8 qA qB qD
      obtain ⟨n, hn⟩ : ∃ n, l.length = n := ⟨_, rfl⟩
      have Hn : Hid (l.length = n) := hn
      rw [hn]
      rw [hn] at hl7
      clear hn
      go_wp2_with fail
      obtain ⟨wo, rfl⟩ : ∃ wo, wo = wr := ⟨_, rfl⟩
      go_loopw [12] (fun vi wr => ∃ j : Nat, 1 ≤ j ∧ j ≤ 100 ∧ vi = .int .i64 j ∧ Occs wr al l ∧ Below w.heap.size w wr) (fun vi _ => 100 - (intOf vi).toNat)
      case atStart => exact ⟨1, by omega, by omega, rfl, hl_10, b10⟩
      case round =>
        obtain ⟨i, hi1, hi2, rfl, hE, hbe⟩ := hrel
        by_cases hin : i < n
        · have hin' : (i : Int) < (n : Int) := by omega
          have hn0 : (0 : Int) < (n : Int) := by omega
          have hspec := specOccsOk_any al cl l wr hE
          rw [Hn.out] at hspec
          go_wp2_with fail
          refine hspec.mono ?_
          rintro e w11 ⟨rfl, hb11⟩
          rw [Hp9.out]
          have b11 := hbe.trans (hb11.mono hbe.size)
          have hE11 := hE.below hb11
          cases p9
          · go_wp2
            go_ret
            exact ⟨rfl, b11⟩
          · have hlt0 : 0 < l.length := by rw [Hn.out]; omega
            have hlti : i < l.length := by rw [Hn.out]; omega
            obtain ⟨b, off, aX, cX, rfl, hbl, x0, x1, x2, hIX⟩ := hE11.at hlt0
            obtain ⟨b', off', aY, cY, eb, _, y0, y1, y2, hIY⟩ := hE11.at hlti
            cases eb
            have hless : lessB l[0].fr l[0].tl l[0].ids l[i].fr l[i].tl l[i].ids = true := (oLess_iff l[0] l[i]).2 (List.pairwise_iff_getElem.1 (asc_ok Hp9.out) 0 i hlt0 hlti (by omega))
            have hcA := fun (u : After w11) => calls_after (u := u) (implOccLess_any l[0].fr l[0].tl aX cX l[0].ids l[i].fr l[i].tl aY cY l[i].ids u.v (hIX.below u.h) (hIY.below u.h))
            rw [hless] at hcA
            generalize l[0] = X at *
            generalize l[i] = Y at *
            simp only [Nat.zero_mul, Nat.add_zero] at x0 x1 x2
            have fx0 := fun u : After w11 => u.cell x0 hbl
            have fx1 := fun u : After w11 => u.cell x1 hbl
            have fx2 := fun u : After w11 => u.cell x2 hbl
            have fy0 := fun u : After w11 => u.cell y0 hbl
            have fy1 := fun u : After w11 => u.cell y1 hbl
            have fy2 := fun u : After w11 => u.cell y2 hbl
            have hany := after_any
            clear x0 x1 x2 y0 y1 y2 hless hlt0 hlti
            go_wp2
            refine wp_region_after (by kernel_rfl) (by kernel_rfl) ?_
            repeat (go_big_quiet_step (first | (go_at_call 5; refine hcA _)))
            refine wpQuiet_nil ?_
            intro w12 hu
            have hb12 := after_of hu
            have b12 := b11.trans (hb12.mono b11.size)
            have hE12 := hE11.below hb12
            clear hu hcA fx0 fx1 fx2 fy0 fy1 fy2
            go_wp2
            exact ⟨⟨i + 1, by omega, by omega, by go_num, hE12, b12⟩, by simp [intOf]; omega⟩
        · go_wp2
          go_ret
          exact ⟨rfl, hbe⟩

set_option maxRecDepth 100000 in
theorem lifted (os : Os) (started : os.Started) (H : Type) (enc : TypeId × Value → H) :
    ReturnsInHanded {} Try.checked os 3 .any (Rows.fnOccOrderSpec.pre6 enc Try.prog Try.f3 Rows.fnOccOrderRow.domain false) (Rows.fnOccOrderSpec.post enc Try.prog Try.f3 false true false false) := by
  refine returnsInHanded_of_change (C := Try.checked) own started (by kernel_rfl) Try.func3
    (ChangeSpec.witness6 (enc := enc) (C := Try.checked) false ⟨#[], #[.slice none 0 0, .slice none 0 0], []⟩ 8 (by kernel_rfl) (by kernel_rfl) (by kernel_rfl) (by kernel_rfl)) ?_
  intro W base args ds gs before hval0 hW hcnd _
  have hval : ∀ (j : Nat) t v, Try.f3.params[j]? = some t → args[j]? = some v → Value.okWide Try.prog W .any base t v := hval0
  have hW' := hW
  obtain ⟨p, q, hA0, hV, rfl, hfz, hnd⟩ := hW
  have hA : DataW.TrodAll enc Try.prog W 0 (fun _ => true) true Try.f3.params.toList args.toList ds p := hA0
  rw [Try.params3] at hA hval
  obtain ⟨v0, vs0, d0, ds0, p0, q0, hargs, rfl, rfl, h0, r0⟩ := trodAll_cons hA
  obtain ⟨v1, vs1, d1, ds1, p1, q1, rfl, rfl, rfl, h1, r1⟩ := trodAll_cons r0
  obtain ⟨rfl, rfl, rfl⟩ := trodAll_nil r1
  obtain rfl : args = #[v0, v1] := by cases args; simp_all
  obtain ⟨rfl, rfl⟩ := trodVars_none hV
  have k0 := h0
  have lt0 : ∀ x ∈ p0, x.block < W.heap.size := by obtain ⟨m, hm⟩ := k0; exact DataW.trod_lt m _ _ _ hm
  have k1 := h1
  have lt1 : ∀ x ∈ p1, x.block < W.heap.size := by obtain ⟨m, hm⟩ := k1; exact DataW.trod_lt m _ _ _ hm
  obtain ⟨a0, cap0, bs0, rfl, e0⟩ := open_bytes (hval 0 22 v0 rfl rfl) h0
  obtain ⟨a1, cap1, bs1, rfl, e1⟩ := open_bytes (hval 1 22 v1 rfl rfl) h1
  clear hA0 hval0
  refine (walk a0 cap0 bs0 a1 cap1 bs1 W e0 e1).mono fun e W' ⟨he, bel⟩ => ?_
  subst he
  exact ⟨_, rfl, _, _, _, [], _, [], hW', trodAll_mk1 (shut_bool Try.underlying4 _), (trodAll_cons_mk (Below.trod laidOut (by kernel_rfl) (of_decide_eq_true (by kernel_rfl)) k0 bel lt0) (trodAll_cons_mk (Below.trod laidOut (by kernel_rfl) (of_decide_eq_true (by kernel_rfl)) k1 bel lt1) trodAll_mk0)), rfl, bel.frame _, fun h => by cases h⟩

theorem over : Rows.fnOccOrderRow.holds Try.pinned (OpenSpec.ofChange Rows.fnOccOrderSpec) :=
  OpenClaim.holds_of_wide 3 Try.f3 rfl rfl rfl rfl rfl rfl rfl ⟨rfl, rfl, rfl, rfl, rfl⟩ rfl rfl rfl rfl rfl (by kernel_rfl) Try.func3 (by kernel_rfl)
    (of_decide_eq_true (by kernel_rfl)) (by unfold Func.isWrapper; first | (rw [if_pos (by decide +kernel)]; kernel_rfl) | (rw [if_neg (by decide +kernel)]; exact ⟨rfl, rfl⟩))
    (fun os started H enc _ => lifted os started H enc)
end Go.Proofs.Ytjaneedmhekheaa.fnOccOrder
namespace Go.Proofs.Ytjaneedmhekheaa
theorem fnOccOrder_holds : Rows.FnOccOrderSaid := fnOccOrder.over
#print axioms fnOccOrder_holds
end Go.Proofs.Ytjaneedmhekheaa

