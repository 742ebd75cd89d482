/- Rows of graphs and rows of what followed are copied by the laws: rows of the call's own. -/
import Derived.Test.YthlddehmebgfoaaGx1
import Derived.Test.YthlddehmebgfoaaNd4
namespace Go.Proofs.Ythlddehmebgfoaa
open Go.ChangeShapes Go.WideShapes Go.ChangeAt Go.RowKit Go.Deep
set_option linter.unusedVariables false
set_option maxRecDepth 4000

theorem info_graph : (Try.prog.info? 50).map (fun i => (i.zero, i.size, i.bytes)) = some (some (.agg #[.int .i64 0, .slice none 0 0, .int .i64 0, .int .i64 0, .bool false]), 5, 56) := by kernel_rfl
def zerosGraph (n : Nat) : Array Value := madeCells #[.int .i64 0, .slice none 0 0, .int .i64 0, .int .i64 0, .bool false] (n * 5)
theorem make_graphs (n : Nat) (hn : n ≤ 1048576) (w : World) :
    (Instr.makeSlice 32 (.int .i64 n) (.int .i64 n)).run Try.prog w = .ok (.slice (some ⟨w.heap.size, 0, none⟩) n n) (w.alloc (.cells (zerosGraph n) 50)) := by
  have hi := info_graph
  cases h : Try.prog.info? 50 with
  | none => rw [h] at hi; simp at hi
  | some i =>
    rw [h] at hi
    simp at hi
    obtain ⟨h1, h2, h3⟩ := hi
    have := run_make (P := Try.prog) w 32 50 i (.agg #[.int .i64 0, .slice none 0 0, .int .i64 0, .int .i64 0, .bool false]) Try.underlying32 h h1 .i64 .i64 n n (by omega) (by omega) (by rw [h3]; omega) (by omega)
    rw [this, h2]
    rfl

/-- From cell off on block b holds one, its list in memory of the call's own from B on. -/
def GxHas (w : World) (B b off : Nat) (x : Gx) : Prop := ∃ d, FiveG w b off x (some ⟨d, 0, none⟩) x.l.length ∧ NdsHas w B d x.l
theorem GxHas.move {w w' : World} {B b off : Nat} {x : Gx} (h : GxHas w B b off x) (hc : ∀ o, off ≤ o → o < off + 5 → w'.cell? ⟨b, o, none⟩ = w.cell? ⟨b, o, none⟩) (k : Keeps B w w') : GxHas w' B b off x := by
  obtain ⟨d, ht, ho⟩ := h
  exact ⟨d, ht.move hc, ho.keeps k⟩
theorem GxHas.rd {w : World} {B b off : Nat} {x : Gx} (h : GxHas w B b off x) : GxRd w b off x := by
  obtain ⟨d, ht, ho⟩ := h
  exact ⟨_, _, ht, ho.nds⟩
theorem GxHas.low {w : World} {B B' b off : Nat} {x : Gx} (h : GxHas w B b off x) (hB : B' ≤ B) : GxHas w B' b off x := by
  obtain ⟨d, ht, ho⟩ := h
  exact ⟨d, ht, ho.low hB⟩
/-- A row of them, all in memory of the call's own from B on. -/
structure GxsHas (w : World) (B b : Nat) (l : List Gx) : Prop where
  blk : ∃ c t, w.heap[b]? = some (.cells c t (0, 0)) ∧ c.size = l.length * 5
  ge : B ≤ b
  len : l.length ≤ maxLen
  one : ∀ i (h : i < l.length), GxHas w B b (i * 5) l[i]
theorem GxsHas.lt {w : World} {B b : Nat} {l : List Gx} (h : GxsHas w B b l) : b < w.heap.size := by
  obtain ⟨c, t, hb, _⟩ := h.blk
  exact (Array.getElem?_eq_some_iff.1 hb).1
theorem GxsHas.keeps {w w' : World} {B b : Nat} {l : List Gx} (h : GxsHas w B b l) (k : Keeps B w w') : GxsHas w' B b l := by
  have hb := k.2 b h.ge h.lt
  obtain ⟨c, t, hc, hcs⟩ := h.blk
  exact ⟨⟨c, t, hb.trans hc, hcs⟩, h.ge, h.len, fun i hi => (h.one i hi).move (fun o _ _ => by simp [World.cell?, hb]) k⟩
theorem GxsHas.rows {w : World} {B b : Nat} {l : List Gx} (h : GxsHas w B b l) : Gxs w (some ⟨b, 0, none⟩) l :=
  ⟨h.len, fun _ => ⟨b, 0, rfl, h.lt, fun i hi => by rw [Nat.zero_add]; exact (h.one i hi).rd⟩⟩
theorem GxsHas.low {w : World} {B B' b : Nat} {l : List Gx} (h : GxsHas w B b l) (hB : B' ≤ B) : GxsHas w B' b l :=
  ⟨h.blk, Nat.le_trans hB h.ge, h.len, fun i hi => (h.one i hi).low hB⟩
/-- What the copy of a list hands back: a row of its own. -/
def CopyGs (w : World) (l : List Gx) (e : Ending) (w' : World) : Prop :=
  e = .returned (.slice (some ⟨w.heap.size, 0, none⟩) l.length l.length) ∧ GxsHas w' w.heap.size w.heap.size l ∧ Below w.heap.size w w'

set_option maxHeartbeats 4000000 in
theorem toGraphS_any (a : Option Addr) (cap : Nat) (l : List Gx) (w : World) (h : Gxs w a l) (hn : gxsSize l ≤ 1048576) :
    Calls Try.prog 19 #[.slice a l.length cap] w (CopyGs w l) := by
  have hse : gxsSize l = l.length + gxsTotal l := rfl
  have hmk := make_graphs l.length (by omega)
  have hln : l.length ≤ 1048576 := by omega
  go_enter Try.func19, Try.ntmps19
  go_wp2
  go_loopw [4] (fun i wr => ∃ k : Nat, k ≤ l.length ∧ i = .int .i64 k ∧ (∃ c t, wr.heap[w.heap.size]? = some (.cells c t (0, 0)) ∧ c.size = l.length * 5) ∧
      (∀ i (h : i < l.length), i < k → GxHas wr (w.heap.size + 1) w.heap.size (i * 5) l[i]) ∧ Below w.heap.size w wr ∧ w.heap.size < wr.heap.size) (fun i _ => l.length - (intOf i).toNat)
  case atStart =>
    exact ⟨0, Nat.zero_le _, rfl, ⟨zerosGraph l.length, _, heap_alloc_new w _, by simp [zerosGraph, size_madeCells]⟩, fun i h hi => by omega, (Below.refl _ _).alloc (Nat.le_refl _) _, by simp⟩
  case round =>
    obtain ⟨k, hk, rfl, ⟨c, t, hrow, hcs⟩, hO, hb, hz⟩ := hrel
    by_cases hlt : k < l.length
    · obtain ⟨b, off, p, pc, rfl, hbl, ht, hids⟩ := (h.below hb).at hlt
      have hil : ndsSize l[k].l ≤ 1048576 := by have := gxsTotal_get hlt; omega
      have hO' : Hid (∀ i (h : i < l.length), i < k → GxHas wr (w.heap.size + 1) w.heap.size (i * 5) l[i]) := hO
      obtain ⟨o, ho⟩ : ∃ o, l[k] = o := ⟨_, rfl⟩
      have Ho : Hid (l[k] = o) := ho
      rw [ho] at ht hids hil
      clear hmk hse hO ho
      obtain ⟨q0, q1, q2, q3, q4⟩ := ht
      go_wp2_with fail
      refine (toGraph_any o.m p pc o.l o.se o.nw o.fu _ hids hil).mono ?_
      rintro e w1 ⟨d, rfl, hown, hb1⟩
      clear q0 q1 q2 q3 q4
      have hrow1 : w1.heap[w.heap.size]? = some (.cells c t (0, 0)) := (hb1.block _ hz).trans hrow
      have fz : ∀ o, w1.frozen? ⟨w.heap.size, o, none⟩ = false := fun o => by simp [World.frozen?, hrow1]
      have hold : ∀ j, j < 5 → ∃ y, w1.cell? ⟨w.heap.size, k * 5 + j, none⟩ = some y := fun j hj => ⟨c[k * 5 + j]'(by omega), by rw [oCell hrow1]; exact Array.getElem?_eq_getElem (by omega)⟩
      obtain ⟨y0, x0⟩ := hold 0 (by omega)
      obtain ⟨y1, x1⟩ := hold 1 (by omega)
      obtain ⟨y2, x2⟩ := hold 2 (by omega)
      obtain ⟨y3, x3⟩ := hold 3 (by omega)
      obtain ⟨y4, x4⟩ := hold 4 (by omega)
      simp only [Nat.add_zero] at x0
      clear hold
      unfold gC
      go_wp2
      have st := (((((st_nil (k * 5) hrow1).snoc 0 rfl (by omega) (.int .i64 o.m)).snoc 1 rfl (by omega) (.slice (some ⟨d, 0, none⟩) o.l.length o.l.length)).snoc 2 rfl (by omega) (.int .i64 o.se)).snoc 3 rfl (by omega) (.int .i64 o.nw)).snoc 4 rfl (by omega) (.bool o.fu)
      simp only [Nat.add_zero] at st
      have hbe : Below w.heap.size w w1 := hb.trans (hb1.mono hb.size)
      have hs1 := hb1.size
      have hbz := (((((hbe.setCell (p := ⟨w.heap.size, k * 5, none⟩) (Nat.le_refl _) (.int .i64 o.m)).setCell (p := ⟨w.heap.size, k * 5 + 1, none⟩) (Nat.le_refl _) (.slice (some ⟨d, 0, none⟩) o.l.length o.l.length)).setCell (p := ⟨w.heap.size, k * 5 + 2, none⟩) (Nat.le_refl _) (.int .i64 o.se)).setCell (p := ⟨w.heap.size, k * 5 + 3, none⟩) (Nat.le_refl _) (.int .i64 o.nw)).setCell (p := ⟨w.heap.size, k * 5 + 4, none⟩) (Nat.le_refl _) (.bool o.fu))
      generalize (World.setCell _ ⟨w.heap.size, k * 5 + 4, none⟩ (.bool o.fu)) = wz at st hbz ⊢
      have kz := st.keeps (B := w.heap.size + 1) (by omega)
      obtain ⟨⟨c', hr', hcs', hin, hout⟩, hoth, hsz⟩ := st
      refine ⟨⟨k + 1, by omega, by go_num, ⟨c', t, hr', by omega⟩, fun i hi hik => ?_, hbz, by omega⟩, by simp [intOf]; omega⟩
      by_cases hie : i = k
      · subst hie
        rw [Ho.out]
        have g : ∀ j v, ([.int .i64 o.m, .slice (some ⟨d, 0, none⟩) o.l.length o.l.length, .int .i64 o.se, .int .i64 o.nw, .bool o.fu] : List Value)[j]? = some v → wz.cell? ⟨w.heap.size, i * 5 + j, none⟩ = some v :=
          fun j v hj => (oCell hr' _).trans (hin j v hj)
        exact ⟨d, ⟨g 0 _ rfl, g 1 _ rfl, g 2 _ rfl, g 3 _ rfl, g 4 _ rfl⟩, (hown.low (by omega)).keeps kz⟩
      · have hh := hO'.out i hi (by omega)
        refine (hh.move (fun q _ _ => hb1.cell hz) (Keeps.of_below hb1)).move (fun q hq1 hq2 => ?_) kz
        rw [oCell hr', oCell hrow1]
        exact hout q (by omega)
    · go_wp2
      go_ret
      obtain rfl : k = l.length := by omega
      exact ⟨rfl, ⟨⟨c, t, hrow, hcs⟩, Nat.le_refl _, h.len, fun i hi => (hO i hi hi).low (by omega)⟩, hb⟩

/-- What the copy of one hands back. -/
def CopyF (w : World) (x : Fx) (e : Ending) (w' : World) : Prop := ∃ d, e = .returned (fxV x (some ⟨d, 0, none⟩) x.oc.ids.length) ∧ IntRow w' d x.oc.ids ∧ w.heap.size ≤ d ∧ d < w'.heap.size ∧ Below w.heap.size w w'

set_option maxHeartbeats 4000000 in
theorem toFire_any (x : Fx) (a : Option Addr) (c : Nat) (w : World) (h : Ints w a x.oc.ids) (hn : x.oc.ids.length ≤ 1048576) :
    Calls Try.prog 44 #[fxV x a c] w (CopyF w x) := by
  obtain ⟨A, hA⟩ : ∃ A, w.heap.size = A := ⟨_, rfl⟩
  obtain ⟨w0, hw0⟩ : ∃ w0, w.alloc (.cells (fxC x a c) 78) = w0 := ⟨_, rfl⟩
  have hA0 := bx_new w (fxC x a c) 78
  have b0 := oBelow_new w (.cells (fxC x a c) 78)
  have z0 : (w.alloc (.cells (fxC x a c) 78)).heap.size = w.heap.size + 1 := by simp
  rw [hw0] at hA0 b0 z0
  obtain ⟨R, hR⟩ : ∃ R, w0.heap.size = R := ⟨_, rfl⟩
  obtain ⟨v1, hv1⟩ : ∃ v1, w0.alloc (.cells #[.int .i64 0, .int .i64 0, .int .i64 0, .slice none 0 0] 62) = v1 := ⟨_, rfl⟩
  have hR1 := ob_new w0 #[.int .i64 0, .int .i64 0, .int .i64 0, .slice none 0 0] 62
  have b01 := oBelow_new w0 (.cells #[.int .i64 0, .int .i64 0, .int .i64 0, .slice none 0 0] 62)
  have z1 : (w0.alloc (.cells #[.int .i64 0, .int .i64 0, .int .i64 0, .slice none 0 0] 62)).heap.size = w0.heap.size + 1 := by simp
  rw [hv1] at hR1 b01 z1
  obtain ⟨B, hB⟩ : ∃ B, v1.heap.size = B := ⟨_, rfl⟩
  obtain ⟨u1, hu1⟩ : ∃ u1, v1.alloc (.cells #[.int .i64 0, .int .i64 0, .int .i64 0, .slice none 0 0] 62) = u1 := ⟨_, rfl⟩
  have hB01 := ob_new v1 #[.int .i64 0, .int .i64 0, .int .i64 0, .slice none 0 0] 62
  have b02 := oBelow_new v1 (.cells #[.int .i64 0, .int .i64 0, .int .i64 0, .slice none 0 0] 62)
  have z2 : (v1.alloc (.cells #[.int .i64 0, .int .i64 0, .int .i64 0, .slice none 0 0] 62)).heap.size = v1.heap.size + 1 := by simp
  rw [hu1] at hB01 b02 z2
  have b1 := (b0.trans (b01.mono b0.size)).trans (b02.mono (by omega))
  have hA01 := (hA0.below b01).below b02
  have hR01 := hR1.below b02
  rw [hA] at hA01
  rw [hR] at hR01
  rw [hB] at hB01
  have lAR : A < R := by omega
  have lRB : R < B := by omega
  clear z0 z1 z2 b0 b01 b02 hA0 hR1
  obtain ⟨w1, hw1⟩ : ∃ w1, u1.setCell ⟨B, 0, none⟩ (.int .i64 x.ru) = w1 := ⟨_, rfl⟩
  have hA1 : Bx w1 A (fxC x a c) := by rw [← hw1]; exact hA01.other (by omega) _ _
  have hB1 : OB w1 B #[.int .i64 x.ru, .int .i64 0, .int .i64 0, .slice none 0 0] := by rw [← hw1]; exact hB01.set 0 _
  have hR1 : OB w1 R #[.int .i64 0, .int .i64 0, .int .i64 0, .slice none 0 0] := by rw [← hw1]; exact hR01.other (by omega) _ _
  have b1 : Below w.heap.size w w1 := by rw [← hw1]; exact b1.setCell (by show _ ≤ B; omega) _
  have e1 : B + 1 ≤ w1.heap.size := by have := hB1.lt; omega
  have q01 := hA01.fourF.1
  have c01 := hB01.at 0
  have f01 := hB01.free
  obtain ⟨q0, q1, q2, q3⟩ := hA1.fourF
  simp only [Nat.zero_add] at q0 q1 q2 q3
  unfold fxV
  unfold fxC at hw0 ⊢
  go_enter Try.func44, Try.ntmps44
  go_wp2_with fail
  refine (toOcc_any _ _ a _ x.oc.ids _ (h.below b1) hn).mono ?_
  rintro e w2 ⟨d, rfl, hN2, hd1, hd2, hb2⟩
  clear q0 q1 q2 q3 q01 c01 f01 hw0 hv1 hu1 hw1
  have b2 := b1.trans (hb2.mono b1.size)
  have hR2 := hR1.below hb2
  have hB2 := hB1.below hb2
  have hdB : B < d := by omega
  obtain ⟨w3, hw3⟩ : ∃ w3, ((w2.setCell ⟨B, 1, none⟩ (.int .i64 x.oc.fr)).setCell ⟨B, 2, none⟩ (.int .i64 x.oc.tl)).setCell ⟨B, 3, none⟩ (.slice (some ⟨d, 0, none⟩) x.oc.ids.length x.oc.ids.length) = w3 := ⟨_, rfl⟩
  have hB3 : OB w3 B #[.int .i64 x.ru, .int .i64 x.oc.fr, .int .i64 x.oc.tl, .slice (some ⟨d, 0, none⟩) x.oc.ids.length x.oc.ids.length] := by rw [← hw3]; exact ((hB2.set 1 _).set 2 _).set 3 _
  have hR3 : OB w3 R #[.int .i64 0, .int .i64 0, .int .i64 0, .slice none 0 0] := by rw [← hw3]; exact ((hR2.other (by omega) _ _).other (by omega) _ _).other (by omega) _ _
  have b3 : Below w.heap.size w w3 := by rw [← hw3]; exact ((b2.setCell (by show _ ≤ B; omega) _).setCell (by show _ ≤ B; omega) _).setCell (by show _ ≤ B; omega) _
  have kk : Keeps d w2 w3 := by rw [← hw3]; exact ((keeps_set (b := B) _ (by omega) _ _).trans (keeps_set (b := B) _ (by omega) _ _)).trans (keeps_set (b := B) _ (by omega) _ _)
  have c1 := hB2.at 1
  have c2 := hB2.at 2
  have c3 := hB2.at 3
  have f1 := hB2.free
  have y0 := hB3.at 0
  have y1 := hB3.at 1
  have y2 := hB3.at 2
  have y3 := hB3.at 3
  have x0 := hR3.at 0
  have x1 := hR3.at 1
  have x2 := hR3.at 2
  have x3 := hR3.at 3
  have f3 := hR3.free
  go_wp2
  have hRz := (((hR3.set 0 (.int .i64 x.ru)).set 1 (.int .i64 x.oc.fr)).set 2 (.int .i64 x.oc.tl)).set 3 (.slice (some ⟨d, 0, none⟩) x.oc.ids.length x.oc.ids.length)
  have kz : Keeps d w3 _ := (((keeps_set (B := d) (b := R) w3 (by omega) 0 (.int .i64 x.ru)).trans (keeps_set (B := d) (b := R) _ (by omega) 1 (.int .i64 x.oc.fr))).trans (keeps_set (B := d) (b := R) _ (by omega) 2 (.int .i64 x.oc.tl))).trans (keeps_set (B := d) (b := R) _ (by omega) 3 (.slice (some ⟨d, 0, none⟩) x.oc.ids.length x.oc.ids.length))
  have bz := (((b3.setCell (p := ⟨R, 0, none⟩) (by show _ ≤ R; omega) (.int .i64 x.ru)).setCell (p := ⟨R, 1, none⟩) (by show _ ≤ R; omega) (.int .i64 x.oc.fr)).setCell (p := ⟨R, 2, none⟩) (by show _ ≤ R; omega) (.int .i64 x.oc.tl)).setCell (p := ⟨R, 3, none⟩) (by show _ ≤ R; omega) (.slice (some ⟨d, 0, none⟩) x.oc.ids.length x.oc.ids.length)
  generalize (World.setCell _ ⟨R, 3, none⟩ (.slice (some ⟨d, 0, none⟩) x.oc.ids.length x.oc.ids.length)) = wz at hRz kz bz ⊢
  have r0 := hRz.at 0
  have r1 := hRz.at 1
  have r2 := hRz.at 2
  have r3 := hRz.at 3
  have kd := kk.trans kz
  have hdz := kd.2 d (Nat.le_refl _) hd2
  refine bodyPost_ret (v := fxV x (some ⟨d, 0, none⟩) x.oc.ids.length) (by simp [results, Try.results44, go_sem, fxV, fxC, r0, r1, r2, r3]) rfl ⟨d, rfl, hN2.of_block hdz, by omega, Nat.lt_of_lt_of_le hd2 kd.1, bz⟩

theorem info_fire : (Try.prog.info? 62).map (fun i => (i.zero, i.size, i.bytes)) = some (some (.agg #[.int .i64 0, .int .i64 0, .int .i64 0, .slice none 0 0]), 4, 48) := by kernel_rfl
def zerosFire (n : Nat) : Array Value := madeCells #[.int .i64 0, .int .i64 0, .int .i64 0, .slice none 0 0] (n * 4)
theorem make_fires (n : Nat) (hn : n ≤ 1048576) (w : World) :
    (Instr.makeSlice 34 (.int .i64 n) (.int .i64 n)).run Try.prog w = .ok (.slice (some ⟨w.heap.size, 0, none⟩) n n) (w.alloc (.cells (zerosFire n) 62)) := by
  have hi := info_fire
  cases h : Try.prog.info? 62 with
  | none => rw [h] at hi; simp at hi
  | some i =>
    rw [h] at hi
    simp at hi
    obtain ⟨h1, h2, h3⟩ := hi
    have := run_make (P := Try.prog) w 34 62 i (.agg #[.int .i64 0, .int .i64 0, .int .i64 0, .slice none 0 0]) Try.underlying34 h h1 .i64 .i64 n n (by omega) (by omega) (by rw [h3]; omega) (by omega)
    rw [this, h2]
    rfl

/-- From cell off on block b holds one, its list in memory of the call's own from B on. -/
def FxHas (w : World) (B b off : Nat) (x : Fx) : Prop := ∃ d, FourF w b off x (some ⟨d, 0, none⟩) x.oc.ids.length ∧ IntRow w d x.oc.ids ∧ B ≤ d ∧ d < w.heap.size ∧ x.oc.ids.length ≤ maxLen
theorem FxHas.move {w w' : World} {B b off : Nat} {x : Fx} (h : FxHas w B b off x) (hc : ∀ o, off ≤ o → o < off + 4 → w'.cell? ⟨b, o, none⟩ = w.cell? ⟨b, o, none⟩) (k : Keeps B w w') : FxHas w' B b off x := by
  obtain ⟨d, ht, ho⟩ := h
  exact ⟨d, ht.move hc, ⟨ho.1.of_block (k.2 d ho.2.1 ho.2.2.1), ho.2.1, Nat.lt_of_lt_of_le ho.2.2.1 k.1, ho.2.2.2⟩⟩
theorem FxHas.rd {w : World} {B b off : Nat} {x : Fx} (h : FxHas w B b off x) : FxRd w b off x := by
  obtain ⟨d, ht, ho⟩ := h
  exact ⟨_, _, ht, ho.1.ints ho.2.2.2⟩
theorem FxHas.low {w : World} {B B' b off : Nat} {x : Fx} (h : FxHas w B b off x) (hB : B' ≤ B) : FxHas w B' b off x := by
  obtain ⟨d, ht, ho⟩ := h
  exact ⟨d, ht, ⟨ho.1, Nat.le_trans hB ho.2.1, ho.2.2⟩⟩
/-- A row of them, all in memory of the call's own from B on. -/
structure FxsHas (w : World) (B b : Nat) (l : List Fx) : Prop where
  blk : ∃ c t, w.heap[b]? = some (.cells c t (0, 0)) ∧ c.size = l.length * 4
  ge : B ≤ b
  len : l.length ≤ maxLen
  one : ∀ i (h : i < l.length), FxHas w B b (i * 4) l[i]
theorem FxsHas.lt {w : World} {B b : Nat} {l : List Fx} (h : FxsHas w B b l) : b < w.heap.size := by
  obtain ⟨c, t, hb, _⟩ := h.blk
  exact (Array.getElem?_eq_some_iff.1 hb).1
theorem FxsHas.keeps {w w' : World} {B b : Nat} {l : List Fx} (h : FxsHas w B b l) (k : Keeps B w w') : FxsHas w' B b l := by
  have hb := k.2 b h.ge h.lt
  obtain ⟨c, t, hc, hcs⟩ := h.blk
  exact ⟨⟨c, t, hb.trans hc, hcs⟩, h.ge, h.len, fun i hi => (h.one i hi).move (fun o _ _ => by simp [World.cell?, hb]) k⟩
theorem FxsHas.rows {w : World} {B b : Nat} {l : List Fx} (h : FxsHas w B b l) : Fxs w (some ⟨b, 0, none⟩) l :=
  ⟨h.len, fun _ => ⟨b, 0, rfl, h.lt, fun i hi => by rw [Nat.zero_add]; exact (h.one i hi).rd⟩⟩
theorem FxsHas.low {w : World} {B B' b : Nat} {l : List Fx} (h : FxsHas w B b l) (hB : B' ≤ B) : FxsHas w B' b l :=
  ⟨h.blk, Nat.le_trans hB h.ge, h.len, fun i hi => (h.one i hi).low hB⟩
/-- What the copy of a list hands back: a row of its own. -/
def CopyFs (w : World) (l : List Fx) (e : Ending) (w' : World) : Prop :=
  e = .returned (.slice (some ⟨w.heap.size, 0, none⟩) l.length l.length) ∧ FxsHas w' w.heap.size w.heap.size l ∧ Below w.heap.size w w'

set_option maxHeartbeats 4000000 in
theorem toFireS_any (a : Option Addr) (cap : Nat) (l : List Fx) (w : World) (h : Fxs w a l) (hn : fxsSize l ≤ 1048576) :
    Calls Try.prog 22 #[.slice a l.length cap] w (CopyFs w l) := by
  have hse : fxsSize l = l.length + fxsTotal l := rfl
  have hmk := make_fires l.length (by omega)
  have hln : l.length ≤ 1048576 := by omega
  go_enter Try.func22, Try.ntmps22
  go_wp2
  go_loopw [4] (fun i wr => ∃ k : Nat, k ≤ l.length ∧ i = .int .i64 k ∧ (∃ c t, wr.heap[w.heap.size]? = some (.cells c t (0, 0)) ∧ c.size = l.length * 4) ∧
      (∀ i (h : i < l.length), i < k → FxHas wr (w.heap.size + 1) w.heap.size (i * 4) l[i]) ∧ Below w.heap.size w wr ∧ w.heap.size < wr.heap.size) (fun i _ => l.length - (intOf i).toNat)
  case atStart =>
    exact ⟨0, Nat.zero_le _, rfl, ⟨zerosFire l.length, _, heap_alloc_new w _, by simp [zerosFire, size_madeCells]⟩, fun i h hi => by omega, (Below.refl _ _).alloc (Nat.le_refl _) _, by simp⟩
  case round =>
    obtain ⟨k, hk, rfl, ⟨c, t, hrow, hcs⟩, hO, hb, hz⟩ := hrel
    by_cases hlt : k < l.length
    · obtain ⟨b, off, p, pc, rfl, hbl, ht, hids⟩ := (h.below hb).at hlt
      have hil : l[k].oc.ids.length ≤ 1048576 := by have := fxsTotal_get hlt; omega
      have hO' : Hid (∀ i (h : i < l.length), i < k → FxHas wr (w.heap.size + 1) w.heap.size (i * 4) l[i]) := hO
      obtain ⟨o, ho⟩ : ∃ o, l[k] = o := ⟨_, rfl⟩
      have Ho : Hid (l[k] = o) := ho
      rw [ho] at ht hids hil
      clear hmk hse hO ho
      obtain ⟨q0, q1, q2, q3⟩ := ht
      go_wp2_with fail
      refine (toFire_any o p pc _ hids hil).mono ?_
      rintro e w1 ⟨d, rfl, hown, hd1, hd2, hb1⟩
      clear q0 q1 q2 q3
      have hrow1 : w1.heap[w.heap.size]? = some (.cells c t (0, 0)) := (hb1.block _ hz).trans hrow
      have fz : ∀ o, w1.frozen? ⟨w.heap.size, o, none⟩ = false := fun o => by simp [World.frozen?, hrow1]
      have hold : ∀ j, j < 4 → ∃ y, w1.cell? ⟨w.heap.size, k * 4 + j, none⟩ = some y := fun j hj => ⟨c[k * 4 + j]'(by omega), by rw [oCell hrow1]; exact Array.getElem?_eq_getElem (by omega)⟩
      obtain ⟨y0, x0⟩ := hold 0 (by omega)
      obtain ⟨y1, x1⟩ := hold 1 (by omega)
      obtain ⟨y2, x2⟩ := hold 2 (by omega)
      obtain ⟨y3, x3⟩ := hold 3 (by omega)
      simp only [Nat.add_zero] at x0
      clear hold
      unfold fxV fxC
      go_wp2
      have st := ((((st_nil (k * 4) hrow1).snoc 0 rfl (by omega) (.int .i64 o.ru)).snoc 1 rfl (by omega) (.int .i64 o.oc.fr)).snoc 2 rfl (by omega) (.int .i64 o.oc.tl)).snoc 3 rfl (by omega) (.slice (some ⟨d, 0, none⟩) o.oc.ids.length o.oc.ids.length)
      simp only [Nat.add_zero] at st
      have hbe : Below w.heap.size w w1 := hb.trans (hb1.mono hb.size)
      have hs1 := hb1.size
      have hbz := ((((hbe.setCell (p := ⟨w.heap.size, k * 4, none⟩) (Nat.le_refl _) (.int .i64 o.ru)).setCell (p := ⟨w.heap.size, k * 4 + 1, none⟩) (Nat.le_refl _) (.int .i64 o.oc.fr)).setCell (p := ⟨w.heap.size, k * 4 + 2, none⟩) (Nat.le_refl _) (.int .i64 o.oc.tl)).setCell (p := ⟨w.heap.size, k * 4 + 3, none⟩) (Nat.le_refl _) (.slice (some ⟨d, 0, none⟩) o.oc.ids.length o.oc.ids.length))
      generalize (World.setCell _ ⟨w.heap.size, k * 4 + 3, none⟩ (.slice (some ⟨d, 0, none⟩) o.oc.ids.length o.oc.ids.length)) = wz at st hbz ⊢
      have kz := st.keeps (B := w.heap.size + 1) (by omega)
      obtain ⟨⟨c', hr', hcs', hin, hout⟩, hoth, hsz⟩ := st
      refine ⟨⟨k + 1, by omega, by go_num, ⟨c', t, hr', by omega⟩, fun i hi hik => ?_, hbz, by omega⟩, by simp [intOf]; omega⟩
      by_cases hie : i = k
      · subst hie
        rw [Ho.out]
        have g : ∀ j v, ([.int .i64 o.ru, .int .i64 o.oc.fr, .int .i64 o.oc.tl, .slice (some ⟨d, 0, none⟩) o.oc.ids.length o.oc.ids.length] : List Value)[j]? = some v → wz.cell? ⟨w.heap.size, i * 4 + j, none⟩ = some v :=
          fun j v hj => (oCell hr' _).trans (hin j v hj)
        exact ⟨d, ⟨g 0 _ rfl, g 1 _ rfl, g 2 _ rfl, g 3 _ rfl⟩, (hown.of_block (kz.2 d (by omega) hd2)), by omega, Nat.lt_of_lt_of_le hd2 kz.1, hids.len⟩
      · have hh := hO'.out i hi (by omega)
        refine (hh.move (fun q _ _ => hb1.cell hz) (Keeps.of_below hb1)).move (fun q hq1 hq2 => ?_) kz
        rw [oCell hr', oCell hrow1]
        exact hout q (by omega)
    · go_wp2
      go_ret
      obtain rfl : k = l.length := by omega
      exact ⟨rfl, ⟨⟨c, t, hrow, hcs⟩, Nat.le_refl _, h.len, fun i hi => (hO i hi hi).low (by omega)⟩, hb⟩
end Go.Proofs.Ythlddehmebgfoaa
