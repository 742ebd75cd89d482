/- The laws' draws of chapter 3: a place, a list. -/
import Derived.Test.YteifbckkoejplaaDoorDraw4
namespace Go.Proofs.YteifbckkoejplaaDoor
open Go.ChangeShapes Go.WideShapes Go.ChangeAt Go.RowKit
set_option linter.unusedVariables false
set_option maxRecDepth 4000

theorem below_grown {w w1 w2 : World} {B R : Nat} (hb : Below B w w1) (hg : w1.grownBy w2 (some R)) (hR : B ≤ R) (hs : B ≤ w1.heap.size) : Below B w w2 := hb.grown hg hs (fun k hk => by cases hk; exact hR)

set_option maxHeartbeats 1000000 in
theorem drawOccsOk_any (a : Option Addr) (cap : Nat) (l : List Int) (w : World) (h : Bytes w a l) (hc : l.length ≤ cap) :
    Calls Tryd.prog 5 #[.slice a l.length cap] w fun e w' => ∃ (a' : Option Addr) (c' : Nat) (m : List Occ), e = .returned (.slice a' (List.length m) c') ∧ m.length ≤ 7 ∧ Occs w' a' m ∧ Below w.heap.size w w' := by
  go_enter Tryd.func5, Tryd.ntmps5
  go_wp2_with fail
  refine (l14Open_any _ _ l _ h hc).mono ?_
  rintro e w1 ⟨rfl, hR1, hb1, hs1⟩
  go_wp2_with fail
  refine (l3Bent_any _ 0 _ hR1 (by omega)).mono ?_
  rintro e w2 ⟨a2, c2, p2, m, rfl, hm, hocc, hage, hR2, hp2, hg2⟩
  go_wp2
  go_ret
  exact ⟨a2, c2, m, rfl, hm, hocc w2 (Nat.le_refl _) (fun _ _ _ => rfl), below_grown hb1 hg2 (Nat.le_refl _) hb1.size⟩

/-- A place that was drawn. -/
def DrawnO (w : World) (e : Ending) (w' : World) : Prop :=
  ∃ (o : Occ) (a' : Option Addr) (c' : Nat), e = .returned (.agg #[.int .i64 o.fr, .int .i64 o.tl, .slice a' o.ids.length c']) ∧ Ints w' a' o.ids ∧ Below w.heap.size w w'

theorem drawnO_set {w w3 u : World} {A : Nat} {o : Occ} {a' : Option Addr} {c' : Nat} (hA : w.heap.size = A) (hu : ((w3.setCell ⟨A, 0, none⟩ (.int .i64 o.fr)).setCell ⟨A, 1, none⟩ (.int .i64 o.tl)).setCell ⟨A, 2, none⟩ (.slice a' o.ids.length c') = u) (hI : Ints u a' o.ids) (hb : Below w.heap.size w w3) :
    DrawnO w (.returned (.agg #[.int .i64 o.fr, .int .i64 o.tl, .slice a' o.ids.length c'])) u := by
  have hgA : w3.grownBy u (some A) := by rw [← hu]; exact grownBy_setCell (grownBy_setCell (grownBy_setCell (grownBy_refl _ _) _) _) _
  exact ⟨o, a', c', rfl, hI, below_grown hb hgA (by rw [hA]; exact Nat.le_refl _) hb.size⟩

set_option maxHeartbeats 1000000 in
theorem drawOccOk_any (a : Option Addr) (cap : Nat) (l : List Int) (w : World) (h : Bytes w a l) (hc : l.length ≤ cap) : Calls Tryd.prog 4 #[.slice a l.length cap] w (DrawnO w) := by
  have hal := oBelow_new w (.cells #[.int .i64 0, .int .i64 0, .slice none 0 0] 25)
  have hB0 : (w.alloc (.cells #[.int .i64 0, .int .i64 0, .slice none 0 0] 25)).heap[w.heap.size]? = some (.cells #[.int .i64 0, .int .i64 0, .slice none 0 0] 25 (0, 0)) := heap_alloc_new w _
  have hs0 : (w.alloc (.cells #[.int .i64 0, .int .i64 0, .slice none 0 0] 25)).heap.size = w.heap.size + 1 := by simp
  obtain ⟨w0, hw0⟩ : ∃ w0, w.alloc (.cells #[.int .i64 0, .int .i64 0, .slice none 0 0] 25) = w0 := ⟨_, rfl⟩
  rw [hw0] at hal hB0 hs0
  obtain ⟨R, hR⟩ : ∃ R, w0.heap.size = R := ⟨_, rfl⟩
  obtain ⟨A, hA⟩ : ∃ A, w.heap.size = A := ⟨_, rfl⟩
  have hAR : R = A + 1 := by omega
  have HAR : Hid (R = A + 1) := hAR
  have HA : Hid (w.heap.size = A) := hA
  have HR : Hid (w0.heap.size = R) := hR
  have hlo := l14Open_any a cap l w0 (h.below hal) hc
  rw [hR] at hlo
  rw [hA] at hB0
  clear hs0 hAR hR
  go_enter Tryd.func4, Tryd.ntmps4
  go_wp2_with fail
  refine hlo.mono ?_
  rintro e w1 ⟨rfl, hR1, hb1, hs1⟩
  have b1 : Below w.heap.size w w1 := hal.trans (hb1.mono (by rw [← HR.out]; exact hal.size))
  have hB1 := (hb1.block A (by rw [HAR.out]; omega)).trans hB0
  have S1 : Hid (w1.heap.size = R + 1) := hs1
  clear hs1 hlo
  have hcall := l3Bent_any R 0 w1 hR1 (by omega)
  go_wp2_with fail
  refine hcall.mono ?_
  rintro e w2 ⟨a2, c2, p2, m, rfl, hm, hocc, hage, hR2, hp2, hg2⟩
  have b2 : Below w.heap.size w w2 := below_grown b1 hg2 (by rw [HA.out, HAR.out]; omega) (by rw [S1.out, HA.out, HAR.out]; omega)
  have hB2 := keep_block hg2 hB1 (by rw [S1.out, HAR.out]; omega) (by rw [HAR.out]; omega)
  have hs2 := hg2.size
  have Hocc : Hid (∀ u : World, w2.heap.size ≤ u.heap.size → (∀ i, w1.heap.size ≤ i → i < w2.heap.size → u.heap[i]? = w2.heap[i]?) → Occs u a2 m) := hocc
  clear hocc hw0 hcall
  by_cases h0 : m.length = 0
  · have hz : ((m.length : Int) == 0) = true := by simp [h0]
    have hcall := l3Any_any R p2 w2 hR2 (by omega)
    go_wp2_with fail
    refine hcall.mono ?_
    rintro e w3 ⟨o, a3, c3, p3, rfl, hok3, hi3, hl3, hR3, hp3, hg3⟩
    have b3 : Below w.heap.size w w3 := below_grown b2 hg3 (by rw [HA.out, HAR.out]; omega) b2.size
    have hB3 := keep_block hg3 hB2 (by rw [S1.out, HAR.out] at hs2; omega) (by rw [HAR.out]; omega)
    have z0 := oCell hB3 0
    have z1 := oCell hB3 1
    have z2 := oCell hB3 2
    simp at z0 z1 z2
    have fA : ∀ o, w3.frozen? ⟨A, o, none⟩ = false := fun o => by simp [World.frozen?, hB3]
    clear hcall
    go_wp2
    obtain ⟨u, hu⟩ : ∃ u, ((w3.setCell ⟨A, 0, none⟩ (.int .i64 o.fr)).setCell ⟨A, 1, none⟩ (.int .i64 o.tl)).setCell ⟨A, 2, none⟩ (.slice a3 o.ids.length c3) = u := ⟨_, rfl⟩
    have e0 : u.cell? ⟨A, 0, none⟩ = some (.int .i64 o.fr) := by rw [← hu]; simp [go_sem, z0]
    have e1 : u.cell? ⟨A, 1, none⟩ = some (.int .i64 o.tl) := by rw [← hu]; simp [go_sem, z1]
    have e2 : u.cell? ⟨A, 2, none⟩ = some (.slice a3 o.ids.length c3) := by rw [← hu]; simp [go_sem, z2]
    have hgA : w3.grownBy u (some A) := by rw [← hu]; exact grownBy_setCell (grownBy_setCell (grownBy_setCell (grownBy_refl _ _) _) _) _
    have hIu : Ints u a3 o.ids := (hi3.only hgA (fun q hq e => by have h1 := hi3.ge q hq; rw [← (show A = q.block by simpa using e)] at h1; rw [S1.out, HAR.out] at hs2; omega)).ints
    rw [hu]
    exact bodyPost_ret (v := .agg #[.int .i64 o.fr, .int .i64 o.tl, .slice a3 o.ids.length c3]) (by simp [results, Tryd.results4, go_sem, e0, e1, e2]) rfl (drawnO_set HA.out hu hIu b3)
  · have hz : ((m.length : Int) == 0) = false := by simpa using h0
    have hcall := pick_any R (m.length : Int) p2 w2 hR2 (by omega) (by omega) (by omega)
    go_wp2_with fail
    refine hcall.mono ?_
    rintro e w3 ⟨k, rfl, _, hk, hR3, hg3⟩
    have hkm : k < m.length := by have := hk (by omega); omega
    have b3 : Below w.heap.size w w3 := below_grown b2 hg3 (by rw [HA.out, HAR.out]; omega) b2.size
    have hB3 := keep_block hg3 hB2 (by rw [S1.out, HAR.out] at hs2; omega) (by rw [HAR.out]; omega)
    have hocc3 : Occs w3 a2 m := Hocc.out w3 hg3.size (fun i h1 h2 => hg3.block i h2 (fun e => absurd (show i = R by simpa using e) (by rw [S1.out] at h1; omega)))
    obtain ⟨b, off, q, cq, rfl, hbl, c0, c1, c2', hids⟩ := hocc3.at hkm
    have z0 := oCell hB3 0
    have z1 := oCell hB3 1
    have z2 := oCell hB3 2
    simp at z0 z1 z2
    have fA : ∀ o, w3.frozen? ⟨A, o, none⟩ = false := fun o => by simp [World.frozen?, hB3]
    obtain ⟨o, ho⟩ : ∃ o, m[k] = o := ⟨_, rfl⟩
    have Ho : Hid (m[k] = o) := ho
    rw [ho] at c0 c1 c2' hids
    clear hcall ho hk
    go_wp2
    obtain ⟨u, hu⟩ : ∃ u, ((w3.setCell ⟨A, 0, none⟩ (.int .i64 o.fr)).setCell ⟨A, 1, none⟩ (.int .i64 o.tl)).setCell ⟨A, 2, none⟩ (.slice q o.ids.length cq) = u := ⟨_, rfl⟩
    have e0 : u.cell? ⟨A, 0, none⟩ = some (.int .i64 o.fr) := by rw [← hu]; simp [go_sem, z0]
    have e1 : u.cell? ⟨A, 1, none⟩ = some (.int .i64 o.tl) := by rw [← hu]; simp [go_sem, z1]
    have e2 : u.cell? ⟨A, 2, none⟩ = some (.slice q o.ids.length cq) := by rw [← hu]; simp [go_sem, z2]
    have hgA : w3.grownBy u (some A) := by rw [← hu]; exact grownBy_setCell (grownBy_setCell (grownBy_setCell (grownBy_refl _ _) _) _) _
    have hkeep : ∀ i, w1.heap.size ≤ i → i < w2.heap.size → u.heap[i]? = w2.heap[i]? := fun i h1 h2 =>
      (hgA.block i (Nat.lt_of_lt_of_le h2 hg3.size) (fun e => absurd (show i = A by simpa using e) (by rw [S1.out, HAR.out] at h1; omega))).trans (hg3.block i h2 (fun e => absurd (show i = R by simpa using e) (by rw [S1.out] at h1; omega)))
    have hoccu : Occs u (some ⟨b, off, none⟩) m := Hocc.out u (Nat.le_trans hg3.size hgA.size) hkeep
    obtain ⟨b', off', q', cq', eb, _, _, _, c2u, hidu⟩ := hoccu.at hkm
    cases eb
    rw [Ho.out] at c2u hidu
    have hIu : Ints u q o.ids := by
      by_cases hbA : b = A
      · have h1 := hage _ rfl
        rw [S1.out, HAR.out] at h1
        have h2 : A + 1 + 1 ≤ b := h1
        omega
      · have hk2 := hgA.block b hbl (fun e => hbA (by simpa using e))
        rw [World.cell?_of_block (w := w3) hk2, c2'] at c2u
        cases c2u
        exact hidu
    rw [hu]
    exact bodyPost_ret (v := .agg #[.int .i64 o.fr, .int .i64 o.tl, .slice q o.ids.length cq]) (by simp [results, Tryd.results4, go_sem, e0, e1, e2]) rfl (drawnO_set HA.out hu hIu b3)
end Go.Proofs.YteifbckkoejplaaDoor
