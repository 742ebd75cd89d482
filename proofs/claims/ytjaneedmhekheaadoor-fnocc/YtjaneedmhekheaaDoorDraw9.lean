/- The laws' draws of chapter 3: a list and one. -/
import Derived.Test.YtjaneedmhekheaaDoorDraw8
namespace Go.Proofs.YtjaneedmhekheaaDoor
open Go.ChangeShapes Go.WideShapes Go.ChangeAt Go.RowKit
set_option linter.unusedVariables false
set_option maxRecDepth 4000
/-- A list and one that were drawn. -/
def PutPair (w : World) (e : Ending) (w' : World) : Prop :=
  ∃ (a p : Option Addr) (ca cp : Nat) (l : List Occ) (o : Occ), e = .returned (.tuple #[.slice a l.length ca, .agg #[.int .i64 o.fr, .int .i64 o.tl, .slice p o.ids.length cp]]) ∧ l.length ≤ 7 ∧ l.length ≤ ca ∧ Occs w' a l ∧ Ints w' p o.ids ∧ (∀ x ∈ l, x.Wd) ∧ o.Wd ∧ Below w.heap.size w w'
theorem loose_cap {w : World} {B c : Nat} {a : Option Addr} {L : List OC} (h : Loose w B a c L) : L.length ≤ c := by
  rcases h.row.2 with ⟨e, hn⟩ | ⟨g, cap, cur, e, _, _, hn, _⟩
  · omega
  · simp only [Value.slice.injEq] at e
    omega
/-- The one is written into its box. -/
theorem pair_set {w w5 u : World} {A : Nat} {a p : Option Addr} {ca cp : Nat} {l : List Occ} {o : Occ} (hA : w.heap.size = A)
    (hu : ((w5.setCell ⟨A, 0, none⟩ (.int .i64 o.fr)).setCell ⟨A, 1, none⟩ (.int .i64 o.tl)).setCell ⟨A, 2, none⟩ (.slice p o.ids.length cp) = u)
    (hb : Below w.heap.size w w5) (h7 : l.length ≤ 7) (hca : l.length ≤ ca) (hl : w5.grownBy u (some A) → Occs u a l ∧ Ints u p o.ids) (hwl : ∀ x ∈ l, x.Wd) (hwo : o.Wd) :
    PutPair w (.returned (.tuple #[.slice a l.length ca, .agg #[.int .i64 o.fr, .int .i64 o.tl, .slice p o.ids.length cp]])) u := by
  have g1 : w5.grownBy u (some A) := by rw [← hu]; exact grownBy_setCell (grownBy_setCell (grownBy_setCell (grownBy_refl _ _) _) _) _
  obtain ⟨h1, h2⟩ := hl g1
  exact ⟨a, p, ca, cp, l, o, rfl, h7, hca, h1, h2, hwl, hwo, below_grown hb g1 (by omega) hb.size⟩
theorem pair_drew {w u : World} {e : Ending} (h : PutPair w e u) : PutPair w e u.drew := by
  obtain ⟨a, p, ca, cp, l, o, h0, h1, h2, h3, h4, h5, h6, h7⟩ := h
  exact ⟨a, p, ca, cp, l, o, h0, h1, h2, h3.below ((Below.refl _ _).drew), h4.below ((Below.refl _ _).drew), h5, h6, h7.drew⟩
set_option maxHeartbeats 2000000 in
theorem drawOccsPut_any (a : Option Addr) (cap : Nat) (l : List Int) (w : World) (h : Bytes w a l) (hc : l.length ≤ cap) : Calls Tryd.prog 10 #[.slice a l.length cap] w (PutPair w) := by
  have hal := oBelow_new w (.cells #[.int .i64 0, .int .i64 0, .slice none 0 0] 25)
  have hB0 : (w.alloc (.cells #[.int .i64 0, .int .i64 0, .slice none 0 0] 25)).heap[w.heap.size]? = some (.cells #[.int .i64 0, .int .i64 0, .slice none 0 0] 25 (0, 0)) := heap_alloc_new w _
  have hs0 : (w.alloc (.cells #[.int .i64 0, .int .i64 0, .slice none 0 0] 25)).heap.size = w.heap.size + 1 := by simp
  obtain ⟨w0, hw0⟩ : ∃ w0, w.alloc (.cells #[.int .i64 0, .int .i64 0, .slice none 0 0] 25) = w0 := ⟨_, rfl⟩
  rw [hw0] at hal hB0 hs0
  obtain ⟨R, hR⟩ : ∃ R, w0.heap.size = R := ⟨_, rfl⟩
  obtain ⟨A, hA⟩ : ∃ A, w.heap.size = A := ⟨_, rfl⟩
  have hAR : R = A + 1 := by omega
  have HAR : Hid (R = A + 1) := hAR
  have HA : Hid (w.heap.size = A) := hA
  have HR : Hid (w0.heap.size = R) := hR
  have hlo := l14Open_any a cap l w0 (h.below hal) hc
  rw [hR] at hlo
  rw [hA] at hB0
  clear hs0 hAR hR
  go_enter Tryd.func10, Tryd.ntmps10
  go_wp2_with fail
  refine hlo.mono ?_
  rintro e w1 ⟨rfl, hR1, hb1, hs1⟩
  have b1 : Below w.heap.size w w1 := hal.trans (hb1.mono (by rw [← HR.out]; exact hal.size))
  have hB1 := (hb1.block A (by rw [HAR.out]; omega)).trans hB0
  have S1 : Hid (w1.heap.size = R + 1) := hs1
  clear hs1 hlo
  have hcall := l3Bent_any R 0 w1 hR1 (by omega)
  go_wp2_with fail
  refine hcall.mono ?_
  rintro e w2 ⟨a2, c2, p2, m, rfl, hm, hocc, hage, hR2, hp2, hg2, hwd, L, hL, hloose⟩
  have b2 : Below w.heap.size w w2 := below_grown b1 hg2 (by rw [HA.out, HAR.out]; omega) (by rw [S1.out, HA.out, HAR.out]; omega)
  have hB2 := keep_block hg2 hB1 (by rw [S1.out, HAR.out]; omega) (by rw [HAR.out]; omega)
  have hs2 := hg2.size
  have hmc : Hid (m.length ≤ c2) := by
    have := loose_cap hloose
    rw [hL, List.length_map]; exact this
  have Hocc : Hid (∀ u : World, w2.heap.size ≤ u.heap.size → (∀ i, w1.heap.size ≤ i → i < w2.heap.size → u.heap[i]? = w2.heap[i]?) → Occs u a2 m) := hocc
  have Hwd : Hid (∀ x ∈ m, x.Wd) := hwd
  clear hocc hw0 hcall hL hloose hwd
  have hRw2 : R < w2.heap.size := by rw [S1.out] at hs2; omega
  have hAl : A < w2.heap.size := (Array.getElem?_eq_some_iff.1 hB2).1
  obtain ⟨n, hn⟩ : ∃ n, m.length = n := ⟨_, rfl⟩
  have Hn : Hid (m.length = n) := hn
  rw [hn] at hm
  rw [hn]
  clear hn
  -- the last way: one is drawn
  have last : ∀ (w3 : World) (p3 : Nat), p3 ≤ 300 → Rd w3 R p3 → w2.grownBy w3 (some R) → Calls Tryd.prog 25 #[.pointer (some ⟨R, 0, none⟩)] w3 (AnyPost w3 R p3) := fun w3 p3 hp hR hg => l3Any_any R p3 w3 hR (by omega)
  by_cases h0 : n = 0
  · subst h0
    go_wp2_with fail
    refine (last w2 p2 (by omega) hR2 (grownBy_refl _ _)).mono ?_
    rintro e wz ⟨o, a3, c3, p3, rfl, hok3, hi3, hl3, hRz, hpz, hgz⟩
    have hgf : w2.grownBy wz (some R) := grownBy_trans (grownBy_refl w2 (some R)) hgz
    have bf : Below w.heap.size w wz := below_grown b2 hgf (by rw [HA.out, HAR.out]; omega) b2.size
    have hBf := keep_block hgf hB2 hAl (by rw [HAR.out]; omega)
    have z0 := oCell hBf 0
    have z1 := oCell hBf 1
    have z2 := oCell hBf 2
    simp at z0 z1 z2
    have fA : ∀ o, wz.frozen? ⟨A, o, none⟩ = false := fun o => by simp [World.frozen?, hBf]
    have hsW : w2.heap.size ≤ w2.heap.size := ((grownBy_refl w2 (some R))).size
    go_wp2
    obtain ⟨u, hu⟩ : ∃ u, ((wz.setCell ⟨A, 0, none⟩ (.int .i64 o.fr)).setCell ⟨A, 1, none⟩ (.int .i64 o.tl)).setCell ⟨A, 2, none⟩ (.slice a3 o.ids.length c3) = u := ⟨_, rfl⟩
    have e0 : u.cell? ⟨A, 0, none⟩ = some (.int .i64 o.fr) := by rw [← hu]; simp [go_sem, z0]
    have e1 : u.cell? ⟨A, 1, none⟩ = some (.int .i64 o.tl) := by rw [← hu]; simp [go_sem, z1]
    have e2 : u.cell? ⟨A, 2, none⟩ = some (.slice a3 o.ids.length c3) := by rw [← hu]; simp [go_sem, z2]
    have hfin := pair_set (a := a2) (ca := c2) HA.out hu bf (l := m) (by rw [Hn.out]; omega) hmc.out (fun g1 => ⟨Hocc.out u (Nat.le_trans hgf.size g1.size) (fun i h1 h2 => (g1.block i (Nat.lt_of_lt_of_le h2 hgf.size) (fun e => by
      have : i = A := Option.some.inj e
      rw [S1.out, HAR.out] at h1
      omega)).trans (hgf.block i h2 (fun e => by
      have : i = R := Option.some.inj e
      rw [S1.out] at h1
      omega))), (hi3.only g1 (fun q hq e => by
      have h1 := hi3.ge q hq
      have : A = q.block := Option.some.inj e
      omega)).ints⟩) Hwd.out (ok_wf hok3)
    rw [Hn.out] at hfin
    rw [hu]
    exact bodyPost_ret (v := .tuple #[.slice a2 0 c2, .agg #[.int .i64 o.fr, .int .i64 o.tl, .slice a3 o.ids.length c3]]) (by simp [results, Tryd.results10, go_sem, e0, e1, e2]) rfl hfin
  · have hn0 : (0 : Int) < (n : Int) := by omega
    have hcall := pick_any R 4 p2 w2 hR2 (by omega) (by omega) (by omega)
    go_wp2_with fail
    refine hcall.mono ?_
    rintro e w3 ⟨k, rfl, _, hk, hR3, hg3⟩
    by_cases hk0 : k = 0
    · subst hk0
      have hocc3 : Occs w3 a2 m := Hocc.out w3 hg3.size (fun i h1 h2 => hg3.block i h2 (fun e => absurd (show i = R by simpa using e) (by rw [S1.out] at h1; omega)))
      obtain ⟨b, off, q, cq, rfl, hbl, c0, c1, c2', hids⟩ := hocc3.at (k := 0) (by rw [Hn.out]; omega)
      have b3 : Below w.heap.size w w3 := below_grown b2 hg3 (by rw [HA.out, HAR.out]; omega) b2.size
      have hB3 := keep_block hg3 hB2 hAl (by rw [HAR.out]; omega)
      have z0 := oCell hB3 0
      have z1 := oCell hB3 1
      have z2 := oCell hB3 2
      simp at z0 z1 z2
      have fA : ∀ o, w3.frozen? ⟨A, o, none⟩ = false := fun o => by simp [World.frozen?, hB3]
      obtain ⟨o, ho⟩ : ∃ o, m[0]'(by rw [Hn.out]; omega) = o := ⟨_, rfl⟩
      have Ho : Hid (m[0]'(by rw [Hn.out]; omega) = o) := ho
      rw [ho] at c0 c1 c2' hids
      simp only [Nat.zero_mul, Nat.add_zero] at c0 c1 c2'
      have hAb : A ≠ b := by
        have h1 := hage _ rfl
        rw [S1.out, HAR.out] at h1
        have h2 : A + 1 + 1 ≤ b := h1
        omega
      clear hcall ho hk
      go_wp2_with fail
      go_region
      all_goals (go_wp2_with fail)
      all_goals (
        obtain ⟨u, hu⟩ : ∃ u, ((w3.setCell ⟨A, 0, none⟩ (.int .i64 o.fr)).setCell ⟨A, 1, none⟩ (.int .i64 o.tl)).setCell ⟨A, 2, none⟩ (.slice q o.ids.length cq) = u := ⟨_, rfl⟩
        have e0 : u.cell? ⟨A, 0, none⟩ = some (.int .i64 o.fr) := by rw [← hu]; simp [go_sem, z0]
        have e1 : u.cell? ⟨A, 1, none⟩ = some (.int .i64 o.tl) := by rw [← hu]; simp [go_sem, z1]
        have e2 : u.cell? ⟨A, 2, none⟩ = some (.slice q o.ids.length cq) := by rw [← hu]; simp [go_sem, z2]
        have hfin := pair_set (a := some ⟨b, off, none⟩) (ca := c2) (p := q) (cp := cq) HA.out hu b3 (l := m) (by rw [Hn.out]; omega) hmc.out (fun g1 => by
          have hoccu : Occs u (some ⟨b, off, none⟩) m := Hocc.out u (Nat.le_trans hg3.size g1.size) (fun i h1 h2 => (g1.block i (Nat.lt_of_lt_of_le h2 hg3.size) (fun e => by
            have : i = A := Option.some.inj e
            rw [S1.out, HAR.out] at h1
            omega)).trans (hg3.block i h2 (fun e => by
            have : i = R := Option.some.inj e
            rw [S1.out] at h1
            omega)))
          refine ⟨hoccu, ?_⟩
          obtain ⟨b', off', q', cq', eb, _, _, _, c2u, hidu⟩ := hoccu.at (k := 0) (by rw [Hn.out]; omega)
          cases eb
          rw [Ho.out] at c2u hidu
          simp only [Nat.zero_mul, Nat.add_zero] at c2u
          rw [World.cell?_of_block (w := w3) (g1.block b hbl (fun e => hAb (Option.some.inj e).symm)), c2'] at c2u
          cases c2u
          exact hidu) Hwd.out (by rw [← Ho.out]; exact Hwd.out _ (List.getElem_mem _))
        rw [Hn.out] at hfin
        rw [hu]
        exact bodyPost_ret (v := .tuple #[.slice (some ⟨b, off, none⟩) n c2, .agg #[.int .i64 o.fr, .int .i64 o.tl, .slice q o.ids.length cq]]) (by simp [results, Tryd.results10, go_sem, e0, e1, e2]) rfl (pair_drew hfin))
    · have hkb : ((k : Int) == 0) = false := by simpa using hk0
      go_wp2_with fail
      refine (last w3 (p2 + 1) (by omega) hR3 hg3).mono ?_
      rintro e wz ⟨o, a3, c3, p3, rfl, hok3, hi3, hl3, hRz, hpz, hgz⟩
      have hgf : w2.grownBy wz (some R) := grownBy_trans hg3 hgz
      have bf : Below w.heap.size w wz := below_grown b2 hgf (by rw [HA.out, HAR.out]; omega) b2.size
      have hBf := keep_block hgf hB2 hAl (by rw [HAR.out]; omega)
      have z0 := oCell hBf 0
      have z1 := oCell hBf 1
      have z2 := oCell hBf 2
      simp at z0 z1 z2
      have fA : ∀ o, wz.frozen? ⟨A, o, none⟩ = false := fun o => by simp [World.frozen?, hBf]
      have hsW : w2.heap.size ≤ w3.heap.size := (hg3).size
      go_wp2
      obtain ⟨u, hu⟩ : ∃ u, ((wz.setCell ⟨A, 0, none⟩ (.int .i64 o.fr)).setCell ⟨A, 1, none⟩ (.int .i64 o.tl)).setCell ⟨A, 2, none⟩ (.slice a3 o.ids.length c3) = u := ⟨_, rfl⟩
      have e0 : u.cell? ⟨A, 0, none⟩ = some (.int .i64 o.fr) := by rw [← hu]; simp [go_sem, z0]
      have e1 : u.cell? ⟨A, 1, none⟩ = some (.int .i64 o.tl) := by rw [← hu]; simp [go_sem, z1]
      have e2 : u.cell? ⟨A, 2, none⟩ = some (.slice a3 o.ids.length c3) := by rw [← hu]; simp [go_sem, z2]
      have hfin := pair_set (a := a2) (ca := c2) HA.out hu bf (l := m) (by rw [Hn.out]; omega) hmc.out (fun g1 => ⟨Hocc.out u (Nat.le_trans hgf.size g1.size) (fun i h1 h2 => (g1.block i (Nat.lt_of_lt_of_le h2 hgf.size) (fun e => by
        have : i = A := Option.some.inj e
        rw [S1.out, HAR.out] at h1
        omega)).trans (hgf.block i h2 (fun e => by
        have : i = R := Option.some.inj e
        rw [S1.out] at h1
        omega))), (hi3.only g1 (fun q hq e => by
        have h1 := hi3.ge q hq
        have : A = q.block := Option.some.inj e
        omega)).ints⟩) Hwd.out (ok_wf hok3)
      rw [Hn.out] at hfin
      rw [hu]
      exact bodyPost_ret (v := .tuple #[.slice a2 n c2, .agg #[.int .i64 o.fr, .int .i64 o.tl, .slice a3 o.ids.length c3]]) (by simp [results, Tryd.results10, go_sem, e0, e1, e2]) rfl hfin
end Go.Proofs.YtjaneedmhekheaaDoor
