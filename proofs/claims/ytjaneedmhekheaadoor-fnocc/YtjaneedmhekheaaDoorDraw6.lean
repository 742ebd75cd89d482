/- The laws' draws of chapter 3: two places that are ok. -/
import Derived.Test.YtjaneedmhekheaaDoorDraw5
namespace Go.Proofs.YtjaneedmhekheaaDoor
open Go.ChangeShapes Go.WideShapes Go.ChangeAt Go.RowKit
set_option linter.unusedVariables false
set_option maxRecDepth 4000
/-- Two places that were drawn: both ok. -/
def LessPost (w : World) (e : Ending) (w' : World) : Prop :=
  ∃ (o o' : Occ) (a a' : Option Addr) (c c' : Nat), e = .returned (.tuple #[.agg #[.int .i64 o.fr, .int .i64 o.tl, .slice a o.ids.length c], .agg #[.int .i64 o'.fr, .int .i64 o'.tl, .slice a' o'.ids.length c']]) ∧ o.Ok ∧ o'.Ok ∧ Ints w' a o.ids ∧ Ints w' a' o'.ids ∧ Below w.heap.size w w'
theorem iOwn_low {w : World} {B B' : Nat} {a : Option Addr} {l : List Int} (h : IntOwn w B a l) (hB : B' ≤ B) : IntOwn w B' a l :=
  ⟨h.len, fun q hq => Nat.le_trans hB (h.ge q hq), fun hl => by
    obtain ⟨b, e, q1, q2⟩ := h.row hl
    exact ⟨b, e, Nat.le_trans hB q1, q2⟩⟩
/-- Both results are written into their boxes. -/
theorem less_set {w w5 u : World} {A B : Nat} {o o' : Occ} {a a' : Option Addr} {c c' : Nat} (hA : w.heap.size = A)
    (hu : (((((w5.setCell ⟨A, 0, none⟩ (.int .i64 o.fr)).setCell ⟨A, 1, none⟩ (.int .i64 o.tl)).setCell ⟨A, 2, none⟩ (.slice a o.ids.length c)).setCell ⟨A + 1, 0, none⟩ (.int .i64 o'.fr)).setCell ⟨A + 1, 1, none⟩ (.int .i64 o'.tl)).setCell ⟨A + 1, 2, none⟩ (.slice a' o'.ids.length c') = u)
    (hb : Below w.heap.size w w5) (hB : A + 2 ≤ B) (ho : o.Ok) (ho' : o'.Ok) (hi : IntOwn w5 B a o.ids) (hi' : IntOwn w5 B a' o'.ids) :
    LessPost w (.returned (.tuple #[.agg #[.int .i64 o.fr, .int .i64 o.tl, .slice a o.ids.length c], .agg #[.int .i64 o'.fr, .int .i64 o'.tl, .slice a' o'.ids.length c']])) u := by
  have g1 : w5.grownBy (((w5.setCell ⟨A, 0, none⟩ (.int .i64 o.fr)).setCell ⟨A, 1, none⟩ (.int .i64 o.tl)).setCell ⟨A, 2, none⟩ (.slice a o.ids.length c)) (some A) := grownBy_setCell (grownBy_setCell (grownBy_setCell (grownBy_refl _ _) _) _) _
  have g2 : (((w5.setCell ⟨A, 0, none⟩ (.int .i64 o.fr)).setCell ⟨A, 1, none⟩ (.int .i64 o.tl)).setCell ⟨A, 2, none⟩ (.slice a o.ids.length c)).grownBy u (some (A + 1)) := by
    rw [← hu]
    exact grownBy_setCell (grownBy_setCell (grownBy_setCell (grownBy_refl _ _) _) _) _
  generalize ((w5.setCell ⟨A, 0, none⟩ (.int .i64 o.fr)).setCell ⟨A, 1, none⟩ (.int .i64 o.tl)).setCell ⟨A, 2, none⟩ (.slice a o.ids.length c) = w6 at g1 g2
  have hk : ∀ i, B ≤ i → i < w5.heap.size → u.heap[i]? = w5.heap[i]? := fun i h1 h2 =>
    (g2.block i (Nat.lt_of_lt_of_le h2 g1.size) (fun e => by
      have : i = A + 1 := by simpa using e
      omega)).trans (g1.block i h2 (fun e => by
      have : i = A := by simpa using e
      omega))
  have hs : w5.heap.size ≤ u.heap.size := Nat.le_trans g1.size g2.size
  have b6 : Below w.heap.size w w6 := below_grown hb g1 (by omega) hb.size
  exact ⟨o, o', a, a', c, c', rfl, ho, ho', (hi.late hs hk).ints, (hi'.late hs hk).ints, below_grown b6 g2 (by omega) b6.size⟩
set_option maxHeartbeats 2000000 in
theorem drawOccLess_any (a : Option Addr) (cap : Nat) (l : List Int) (w : World) (h : Bytes w a l) (hc : l.length ≤ cap) : Calls Tryd.prog 6 #[.slice a l.length cap] w (LessPost w) := by
  have hal : Below w.heap.size w ((w.alloc (.cells #[.int .i64 0, .int .i64 0, .slice none 0 0] 25)).alloc (.cells #[.int .i64 0, .int .i64 0, .slice none 0 0] 25)) := below_two w _ _
  have hB0 : ((w.alloc (.cells #[.int .i64 0, .int .i64 0, .slice none 0 0] 25)).alloc (.cells #[.int .i64 0, .int .i64 0, .slice none 0 0] 25)).heap[w.heap.size]? = some (.cells #[.int .i64 0, .int .i64 0, .slice none 0 0] 25 (0, 0)) := (Below.heap_alloc _ _ _ (by simp)).trans (heap_alloc_new w _)
  have hC0 : ((w.alloc (.cells #[.int .i64 0, .int .i64 0, .slice none 0 0] 25)).alloc (.cells #[.int .i64 0, .int .i64 0, .slice none 0 0] 25)).heap[w.heap.size + 1]? = some (.cells #[.int .i64 0, .int .i64 0, .slice none 0 0] 25 (0, 0)) := by
    have := heap_alloc_new (w.alloc (.cells #[.int .i64 0, .int .i64 0, .slice none 0 0] 25)) (.cells #[.int .i64 0, .int .i64 0, .slice none 0 0] 25)
    rwa [World.size_alloc] at this
  have hs0 : ((w.alloc (.cells #[.int .i64 0, .int .i64 0, .slice none 0 0] 25)).alloc (.cells #[.int .i64 0, .int .i64 0, .slice none 0 0] 25)).heap.size = w.heap.size + 2 := by simp
  obtain ⟨w0, hw0⟩ : ∃ w0, (w.alloc (.cells #[.int .i64 0, .int .i64 0, .slice none 0 0] 25)).alloc (.cells #[.int .i64 0, .int .i64 0, .slice none 0 0] 25) = w0 := ⟨_, rfl⟩
  rw [hw0] at hal hB0 hC0 hs0
  obtain ⟨R, hR⟩ : ∃ R, w0.heap.size = R := ⟨_, rfl⟩
  obtain ⟨A, hA⟩ : ∃ A, w.heap.size = A := ⟨_, rfl⟩
  have hAR : R = A + 2 := by omega
  have HAR : Hid (R = A + 2) := hAR
  have HA : Hid (w.heap.size = A) := hA
  have HR : Hid (w0.heap.size = R) := hR
  have hlo := l14Open_any a cap l w0 (h.below hal) hc
  rw [hR] at hlo
  rw [hA] at hB0 hC0
  clear hs0 hAR hR
  go_enter Tryd.func6, Tryd.ntmps6
  go_wp2_with fail
  refine hlo.mono ?_
  rintro e w1 ⟨rfl, hR1, hb1, hs1⟩
  have b1 : Below w.heap.size w w1 := hal.trans (hb1.mono (by rw [← HR.out]; exact hal.size))
  have hB1 := (hb1.block A (by rw [HAR.out]; omega)).trans hB0
  have hC1 := (hb1.block (A + 1) (by rw [HAR.out]; omega)).trans hC0
  have S1 : Hid (w1.heap.size = R + 1) := hs1
  clear hs1 hlo
  have hcall := l3Any_any R 0 w1 hR1 (by omega)
  go_wp2_with fail
  refine hcall.mono ?_
  rintro e w2 ⟨o, a2, c2, p2, rfl, hok2, hi2, hl2, hR2, hp2, hg2⟩
  have b2 : Below w.heap.size w w2 := below_grown b1 hg2 (by rw [HA.out, HAR.out]; omega) (by rw [S1.out, HA.out, HAR.out]; omega)
  have hB2 := keep_block hg2 hB1 (by rw [S1.out, HAR.out]; omega) (by rw [HAR.out]; omega)
  have hC2 := keep_block hg2 hC1 (by rw [S1.out, HAR.out]; omega) (by rw [HAR.out]; omega)
  have hs2 := hg2.size
  clear hcall hw0
  have hX3 := box3_new w2 (.int .i64 o.fr) (.int .i64 o.tl) (.slice a2 o.ids.length c2) 25
  have hb3 := oBelow_new w2 (.cells #[.int .i64 o.fr, .int .i64 o.tl, .slice a2 o.ids.length c2] 25)
  have hs3 : w2.heap.size < (w2.alloc (.cells #[.int .i64 o.fr, .int .i64 o.tl, .slice a2 o.ids.length c2] 25)).heap.size := by simp
  obtain ⟨w3, hw3⟩ : ∃ w3, w2.alloc (.cells #[.int .i64 o.fr, .int .i64 o.tl, .slice a2 o.ids.length c2] 25) = w3 := ⟨_, rfl⟩
  rw [hw3] at hX3 hb3 hs3
  have hR3 := hR2.below hb3
  have b3 : Below w.heap.size w w3 := b2.trans (hb3.mono b2.size)
  have hB3 := (hb3.block A (by rw [S1.out, HAR.out] at hs2; omega)).trans hB2
  have hC3 := (hb3.block (A + 1) (by rw [S1.out, HAR.out] at hs2; omega)).trans hC2
  have hcall := pick_any R 6 p2 w3 hR3 (by omega) (by omega) (by omega)
  go_wp2_with fail
  refine hcall.mono ?_
  rintro e w4 ⟨k, rfl, _, hk, hR4, hg4⟩
  have hs4 := hg4.size
  have hRw2 : R < w2.heap.size := by rw [S1.out] at hs2; omega
  have b4 : Below w.heap.size w w4 := below_grown b3 hg4 (by rw [HA.out, HAR.out]; omega) b3.size
  have hB4 := keep_block hg4 hB3 (by rw [HAR.out] at hRw2; omega) (by rw [HAR.out]; omega)
  have hC4 := keep_block hg4 hC3 (by rw [HAR.out] at hRw2; omega) (by rw [HAR.out]; omega)
  have hX4 : Box3 w4 w2.heap.size _ _ _ := hX3.only hg4 (fun e => by
    have : R = w2.heap.size := by simpa using e
    omega)
  have hi3 : IntOwn w4 w1.heap.size a2 o.ids := (hi2.below hb3).only hg4 (fun q hq e => by
    have h1 := hi2.ge q hq
    rw [S1.out] at h1
    have : R = q.block := by simpa using e
    omega)
  have hl4 : ∀ q, a2 = some q → q.block < w2.heap.size := hl2
  clear hcall hk hw3 hX3 hB0 hB1 hB2 hB3 hC0 hC1 hC2 hC3
  obtain ⟨x0, x1, x2⟩ := hX4.cells
  have hAl : A < w4.heap.size := (Array.getElem?_eq_some_iff.1 hB4).1
  have hCl : A + 1 < w4.heap.size := (Array.getElem?_eq_some_iff.1 hC4).1
  obtain ⟨g1, g2, g3, g4⟩ := hok2.good
  have hl24 : o.ids.length ≤ 1048576 := by omega
  by_cases hk0 : k = 0
  · subst hk0
    go_wp2_with fail
    go_region_with (go_at_call 27; refine (l3Copy_any o a2 c2 _ (hi3.ints.below ((Below.refl _ _).drew)) g1 hl24).mono ?_; rintro e w5 ⟨a5, c5, rfl, hi5, hl5, hb5⟩; have hbd : Below w4.heap.size w4 w5 := ((Below.refl w4.heap.size w4).drew).trans hb5; have hB5 := (hbd.block A hAl).trans hB4; have hC5 := (hbd.block (A + 1) hCl).trans hC4; have z0 := oCell hB5 0; have z1 := oCell hB5 1; have z2 := oCell hB5 2; have y0 := oCell hC5 0; have y1 := oCell hC5 1; have y2 := oCell hC5 2; simp at z0 z1 z2 y0 y1 y2; have fA : ∀ o, w5.frozen? ⟨A, o, none⟩ = false := (fun o => by simp [World.frozen?, hB5]); have fC : ∀ o, w5.frozen? ⟨A + 1, o, none⟩ = false := (fun o => by simp [World.frozen?, hC5]); have u0 := (hbd.cell (p := ⟨w2.heap.size, 0, none⟩) hX4.lt).trans x0; have u1 := (hbd.cell (p := ⟨w2.heap.size, 1, none⟩) hX4.lt).trans x1; have u2 := (hbd.cell (p := ⟨w2.heap.size, 2, none⟩) hX4.lt).trans x2)
    all_goals (go_wp2_with fail)
    all_goals (
      obtain ⟨u, hu⟩ : ∃ u, (((((w5.setCell ⟨A, 0, none⟩ (.int .i64 o.fr)).setCell ⟨A, 1, none⟩ (.int .i64 o.tl)).setCell ⟨A, 2, none⟩ (.slice a2 o.ids.length c2)).setCell ⟨A + 1, 0, none⟩ (.int .i64 o.fr)).setCell ⟨A + 1, 1, none⟩ (.int .i64 o.tl)).setCell ⟨A + 1, 2, none⟩ (.slice a5 o.ids.length c5) = u := ⟨_, rfl⟩
      have e0 : u.cell? ⟨A, 0, none⟩ = some (.int .i64 o.fr) := by rw [← hu]; simp [go_sem, z0]
      have e1 : u.cell? ⟨A, 1, none⟩ = some (.int .i64 o.tl) := by rw [← hu]; simp [go_sem, z1]
      have e2 : u.cell? ⟨A, 2, none⟩ = some (.slice a2 o.ids.length c2) := by rw [← hu]; simp [go_sem, z2]
      have e3 : u.cell? ⟨A + 1, 0, none⟩ = some (.int .i64 o.fr) := by rw [← hu]; simp [go_sem, y0]
      have e4 : u.cell? ⟨A + 1, 1, none⟩ = some (.int .i64 o.tl) := by rw [← hu]; simp [go_sem, y1]
      have e5 : u.cell? ⟨A + 1, 2, none⟩ = some (.slice a5 o.ids.length c5) := by rw [← hu]; simp [go_sem, y2]
      have hfin := less_set (B := w1.heap.size) HA.out hu (b4.trans (hbd.mono b4.size)) (by rw [S1.out, HAR.out]; omega) hok2 hok2 (hi3.below hbd) (iOwn_low hi5 (by have := hb3.size; show w1.heap.size ≤ w4.heap.size; omega))
      rw [hu]
      exact bodyPost_ret (v := .tuple #[.agg #[.int .i64 o.fr, .int .i64 o.tl, .slice a2 o.ids.length c2], .agg #[.int .i64 o.fr, .int .i64 o.tl, .slice a5 o.ids.length c5]]) (by simp [results, Tryd.results6, go_sem, e0, e1, e2, e3, e4, e5]) rfl hfin)
  · have hkb : ((k : Int) == 0) = false := by simpa using hk0
    go_wp2_with fail
    go_region_with (go_at_call 25; refine (l3Any_any R _ _ (hR4.below ((Below.refl _ _).drew)) (by omega)).mono ?_; rintro e w5 ⟨o5, a5, c5, p5, rfl, hok5, hi5, hl5, hR5, hp5, hg5⟩; have hB5 : w5.heap[A]? = _ := keep_block hg5 hB4 hAl (by rw [HAR.out]; omega); have hC5 : w5.heap[A + 1]? = _ := keep_block hg5 hC4 hCl (by rw [HAR.out]; omega); have z0 := oCell hB5 0; have z1 := oCell hB5 1; have z2 := oCell hB5 2; have y0 := oCell hC5 0; have y1 := oCell hC5 1; have y2 := oCell hC5 2; simp at z0 z1 z2 y0 y1 y2; have fA : ∀ o, w5.frozen? ⟨A, o, none⟩ = false := (fun o => by simp [World.frozen?, hB5]); have fC : ∀ o, w5.frozen? ⟨A + 1, o, none⟩ = false := (fun o => by simp [World.frozen?, hC5]); obtain ⟨u0, u1, u2⟩ := (Box3.only (w := w4.drew) hX4 hg5 (fun e => Nat.ne_of_lt hRw2 (by simpa using e))).cells)
    all_goals (go_wp2_with fail)
    all_goals (
      obtain ⟨u, hu⟩ : ∃ u, (((((w5.setCell ⟨A, 0, none⟩ (.int .i64 o.fr)).setCell ⟨A, 1, none⟩ (.int .i64 o.tl)).setCell ⟨A, 2, none⟩ (.slice a2 o.ids.length c2)).setCell ⟨A + 1, 0, none⟩ (.int .i64 o5.fr)).setCell ⟨A + 1, 1, none⟩ (.int .i64 o5.tl)).setCell ⟨A + 1, 2, none⟩ (.slice a5 o5.ids.length c5) = u := ⟨_, rfl⟩
      have e0 : u.cell? ⟨A, 0, none⟩ = some (.int .i64 o.fr) := by rw [← hu]; simp [go_sem, z0]
      have e1 : u.cell? ⟨A, 1, none⟩ = some (.int .i64 o.tl) := by rw [← hu]; simp [go_sem, z1]
      have e2 : u.cell? ⟨A, 2, none⟩ = some (.slice a2 o.ids.length c2) := by rw [← hu]; simp [go_sem, z2]
      have e3 : u.cell? ⟨A + 1, 0, none⟩ = some (.int .i64 o5.fr) := by rw [← hu]; simp [go_sem, y0]
      have e4 : u.cell? ⟨A + 1, 1, none⟩ = some (.int .i64 o5.tl) := by rw [← hu]; simp [go_sem, y1]
      have e5 : u.cell? ⟨A + 1, 2, none⟩ = some (.slice a5 o5.ids.length c5) := by rw [← hu]; simp [go_sem, y2]
      have hi6 : IntOwn w5 w1.heap.size a2 o.ids := IntOwn.only (w := w4.drew) (hi3.below ((Below.refl _ _).drew)) hg5 (fun q hq e => by
        have h1 := hi3.ge q hq
        rw [S1.out] at h1
        have : R = q.block := by simpa using e
        omega)
      have b5 : Below w.heap.size w w5 := below_grown (b4.trans (((Below.refl w4.heap.size w4).drew).mono b4.size)) hg5 (by rw [HA.out, HAR.out]; omega) b4.size
      have hfin := less_set (B := w1.heap.size) HA.out hu b5 (by rw [S1.out, HAR.out]; omega) hok2 hok5 hi6 (iOwn_low hi5 (by have := hb3.size; show w1.heap.size ≤ w4.heap.size; omega))
      rw [hu]
      exact bodyPost_ret (v := .tuple #[.agg #[.int .i64 o.fr, .int .i64 o.tl, .slice a2 o.ids.length c2], .agg #[.int .i64 o5.fr, .int .i64 o5.tl, .slice a5 o5.ids.length c5]]) (by simp [results, Tryd.results6, go_sem, e0, e1, e2, e3, e4, e5]) rfl hfin)
end Go.Proofs.YtjaneedmhekheaaDoor
