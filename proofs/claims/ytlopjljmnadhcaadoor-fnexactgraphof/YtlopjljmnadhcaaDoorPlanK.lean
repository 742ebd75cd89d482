/- The marks are written into a row of parts, and read of it. -/
import Derived.Test.YtlopjljmnadhcaaDoorPlanJ
import Derived.Test.YtlopjljmnadhcaaDoorEx8
namespace Go.Proofs.YtlopjljmnadhcaaDoor
open Go.ChangeShapes Go.WideShapes Go.ChangeAt Go.RowKit
set_option linter.unusedVariables false
set_option maxRecDepth 4000

theorem widL_get : ∀ (L : List GE) (j : Nat) (x : GE), L[j]? = some x → x.w ≤ widL L
  | [], _, _, h => by simp at h
  | y :: r, 0, x, h => by simp at h; subst h; simp [widL]
  | y :: r, j + 1, x, h => by have := widL_get r j x (by simpa using h); rw [widL]; omega

set_option maxHeartbeats 2000000 in
theorem markNodeS_ge (B N b cap : Nat) (L : List GE) (k : Int) (w : World) (h : Ges w B b L) (hbN : b < N) (hNL : ∀ (i : Nat) (x : GE), L[i]? = some x → ∀ (p : Addr), x.a = some p → p.block < N) (hk0 : 0 ≤ k) (hk1 : k + widL L ≤ 100000000) (hw : widL L ≤ 1048576 * 8) (hks : ∀ x ∈ L, x.ks.length ≤ 1048576) (hlen : L.length ≤ 1048576 * 2) :
    Calls Tryd.prog 27 #[.slice (some ⟨b, 0, none⟩) L.length cap, .int .i64 k] w fun e w' => e = .returned (.int .i64 (k + widL L)) ∧ Ges w' B b (markL k L L.length) ∧ Turn (fun x => B ≤ x ∧ x < N) w w' := by
  go_enter Tryd.func27, Tryd.ntmps27
  go_wp2_with fail
  go_loopw [1, 5] (fun c i wr => ∃ j : Nat, j ≤ L.length ∧ i = .int .i64 j ∧ c = .int .i64 (offL k L j) ∧ Ges wr B b (markL k L j) ∧ Turn (fun x => B ≤ x ∧ x < N) w wr) (fun _ i _ => L.length - (intOf i).toNat)
  case atStart => exact ⟨0, Nat.zero_le _, rfl, by rw [offL_zero], by cases L <;> exact h, Turn.refl _ _⟩
  case round =>
    obtain ⟨j, hj, rfl, rfl, hO, ht⟩ := hrel
    by_cases hlt : j < L.length
    · obtain ⟨x, hx⟩ : ∃ x, L[j]? = some x := ⟨_, List.getElem?_eq_getElem hlt⟩
      have hxm : (markL k L j)[j]? = some x := by rw [markL_ge L j k j (Nat.le_refl _)]; exact hx
      have hnx : Hid (offL k L (j + 1) = _) := offL_next L j k x hx
      have hmx : Hid (markL k L (j + 1) = _) := markL_next L j k x hx
      have ho := offL_le L j k
      have hxk := hks x (List.mem_of_getElem? hx)
      have hxw : Hid ((markL k L j).length = L.length) := markL_length L j k
      generalize offL k L j = m at hnx hmx ho
      generalize markL k L j = M at hO hxm hmx hxw
      obtain ⟨c, t, hbl, hcs⟩ := hO.blk
      rw [hxw.out] at hcs
      have hc := hO.cells j x hxm
      have c0 := hc 0 _ rfl
      have c1 := hc 1 _ rfl
      have c2 := hc 2 _ rfl
      have c3 := hc 3 _ rfl
      have c4 := hc 4 _ rfl
      have c5 := hc 5 _ rfl
      have c6 := hc 6 _ rfl
      have c7 := hc 7 _ rfl
      have c8 := hc 8 _ rfl
      have c9 := hc 9 _ rfl
      clear hc
      simp only [Nat.add_zero] at c0
      have fz : ∀ o, wr.frozen? ⟨b, o, none⟩ = false := fun o => by simp [World.frozen?, hbl]
      go_wp2_with fail
      obtain ⟨wM, hwM⟩ : ∃ wM, ((wr.setCell ⟨b, j * 10, none⟩ (.int .i64 m)).setCell ⟨b, j * 10 + 1, none⟩ (.int .i64 (m + 1))).setCell ⟨b, j * 10 + 2, none⟩ (.int .i64 (m + 1 + 1)) = wM := ⟨_, rfl⟩
      rw [hwM]
      obtain ⟨⟨c', hbM, hcs'⟩, m0, m1, m2, mo, mb⟩ := fill3 hbl (j := j * 10) (by omega) _ _ _ hwM
      have hXb : B ≤ b ∧ b < N := ⟨hO.ge, hbN⟩
      have htM : Turn (fun x => B ≤ x ∧ x < N) w wM := by rw [← hwM]; exact ((ht.trans (Turn.set (X := fun x => B ≤ x ∧ x < N) _ hXb _ _)).trans (Turn.set (X := fun x => B ≤ x ∧ x < N) _ hXb _ _)).trans (Turn.set (X := fun x => B ≤ x ∧ x < N) _ hXb _ _)
      have hsM : wr.heap.size ≤ wM.heap.size := by rw [← hwM]; simp
      have hIM : IntOwn wM B x.a x.ks := gInt_turn (hO.one j x hxm) hsM (fun p hp => mb _ (hO.off j x hxm p hp).1)
      refine (markIntS_any B x.a x.c x.ks (m + 1 + 1 + 1) wM hIM hxk (by omega) (by omega)).mono ?_
      rintro e w2 ⟨rfl, hI2, hg2⟩
      have ht2 : Turn (fun x => B ≤ x ∧ x < N) w w2 := htM.trans (Turn.of_grown hg2 (fun q hq => by
        cases hxa : x.a with
        | none => rw [hxa] at hq; simp at hq
        | some p => rw [hxa] at hq; simp at hq; have h1 := hIM.ge p hxa; have h2 := hNL j x hx p hxa; exact ⟨by omega, by omega⟩))
      have hbMs := (Array.getElem?_eq_some_iff.1 hbM).1
      have hb2 : w2.heap[b]? = wM.heap[b]? := hg2.block b hbMs (fun e => by
        cases hxa : x.a with
        | none => rw [hxa] at e; simp at e
        | some p => rw [hxa] at e; simp at e; exact (hO.off j x hxm p hxa).1 e.symm)
      have hce : ∀ o, w2.cell? ⟨b, o, none⟩ = wM.cell? ⟨b, o, none⟩ := fun o => World.cell?_of_block (w := wM) hb2
      have d4 := (hce _).trans ((mo _ (by omega)).trans c4)
      have d5 := (hce _).trans ((mo _ (by omega)).trans c5)
      have d6 := (hce _).trans ((mo _ (by omega)).trans c6)
      have d7 := (hce _).trans ((mo _ (by omega)).trans c7)
      have d8 := (hce _).trans ((mo _ (by omega)).trans c8)
      have d9 := (hce _).trans ((mo _ (by omega)).trans c9)
      have d3 := (hce _).trans ((mo _ (by omega)).trans c3)
      have d2 := (hce _).trans m2
      have d1 := (hce _).trans m1
      have d0 := (hce _).trans m0
      have fz2 : ∀ o, w2.frozen? ⟨b, o, none⟩ = false := fun o => by simp [World.frozen?, hb2, hbM]
      have do' : ∀ o, (o < j * 10 ∨ j * 10 + 10 ≤ o) → w2.cell? ⟨b, o, none⟩ = wr.cell? ⟨b, o, none⟩ := fun o ho => (hce o).trans (mo o (by omega))
      have dq : ∀ q, q ≠ b → (∀ (p : Addr), x.a = some p → q ≠ p.block) → q < wr.heap.size → w2.heap[q]? = wr.heap[q]? := fun q h1 h2 h3 => (hg2.block q (by omega) (fun e => by
        cases hxa : x.a with
        | none => rw [hxa] at e; simp at e
        | some p => rw [hxa] at e; simp at e; exact h2 p hxa e)).trans (mb q h1)
      have hs2 : wr.heap.size ≤ w2.heap.size := Nat.le_trans hsM hg2.size
      clear c0 c1 c2 c3 c4 c5 c6 c7 c8 c9 mo m0 m1 m2 hwM mb hce fz
      go_wp2_with fail
      refine (markOccS_nil _ _).mono ?_
      rintro e w3 ⟨rfl, rfl⟩
      go_wp2_with fail
      refine (markOccS_nil _ _).mono ?_
      rintro e w4 ⟨rfl, rfl⟩
      go_wp2_with fail
      refine (markOccS_nil _ _).mono ?_
      rintro e w5 ⟨rfl, rfl⟩
      go_wp2_with fail
      refine (markOccS_nil _ _).mono ?_
      rintro e w6 ⟨rfl, rfl⟩
      go_wp2_with fail
      refine (markOccS_nil _ _).mono ?_
      rintro e w7 ⟨rfl, rfl⟩
      go_wp2_with fail
      refine ⟨⟨j + 1, by omega, by go_num, ?_, ?_, ht2.trans (Turn.set (X := fun x => B ≤ x ∧ x < N) _ hXb _ _)⟩, by simp [intOf]; omega⟩
      · rw [hnx.out]; go_num
      · obtain ⟨wF, hwF⟩ : ∃ wF, w7.setCell ⟨b, j * 10 + 9, none⟩ (.int .i64 (m + 1 + 1 + 1 + x.ks.length)) = wF := ⟨_, rfl⟩
        have hgF : wF.heap[b]? = some (.cells (c'.setIfInBounds (j * 10 + 9) (.int .i64 (m + 1 + 1 + 1 + x.ks.length))) t (0, 0)) := by
          rw [← hwF]; exact heap_setCell_same _ _ _ _ _ _ (hb2.trans hbM)
        have hne : ∀ o, o ≠ j * 10 + 9 → wF.cell? ⟨b, o, none⟩ = w7.cell? ⟨b, o, none⟩ := by
          intro o ho
          rw [cell_at hgF, cell_at (hb2.trans hbM), Array.getElem?_setIfInBounds, if_neg (by omega)]
        have h9 : wF.cell? ⟨b, j * 10 + 9, none⟩ = some (.int .i64 (m + 1 + 1 + 1 + x.ks.length)) := by
          rw [cell_at hgF, Array.getElem?_setIfInBounds, if_pos rfl, if_pos (by omega)]
        have hoF : ∀ q, q ≠ b → wF.heap[q]? = w7.heap[q]? := fun q hq => by rw [← hwF]; exact Below.heap_setCell _ _ _ _ hq
        have hsF : w7.heap.size ≤ wF.heap.size := by rw [← hwF]; simp
        show Ges (w7.setCell ⟨b, j * 10 + 9, none⟩ (.int .i64 (m + 1 + 1 + 1 + x.ks.length))) B b (markL k L (j + 1))
        rw [hwF, hmx.out]
        refine hO.step hxm (x.mark m) rfl (Nat.le_trans hs2 hsF) ⟨_, t, hgF, by rw [hxw.out]; simp; omega⟩ (fun o ho => (hne o (by omega)).trans (do' o ho)) (fun r v hr => ?_) ?_ (fun q h1 h2 h3 => (hoF q h1).trans (dq q h1 h2 h3))
        · match r, hr with
          | 0, hr => cases hr; exact (hne _ (by omega)).trans d0
          | 1, hr => cases hr; exact (hne _ (by omega)).trans d1
          | 2, hr => cases hr; exact (hne _ (by omega)).trans d2
          | 3, hr => simp [GE.v, GE.mark, iMarks_length] at hr; subst hr; exact (hne _ (by omega)).trans d3
          | 4, hr => cases hr; exact (hne _ (by omega)).trans d4
          | 5, hr => cases hr; exact (hne _ (by omega)).trans d5
          | 6, hr => cases hr; exact (hne _ (by omega)).trans d6
          | 7, hr => cases hr; exact (hne _ (by omega)).trans d7
          | 8, hr => cases hr; exact (hne _ (by omega)).trans d8
          | 9, hr => cases hr; exact h9
          | r + 10, hr => simp [GE.v] at hr
        · exact gInt_turn hI2 hsF (fun p hp => hoF _ (hO.off j x hxm p hp).1)
    · go_wp2_with fail
      go_ret
      obtain rfl : j = L.length := by omega
      rw [offL_full L _ k (Nat.le_refl _)]
      exact ⟨rfl, hO, ht⟩
end Go.Proofs.YtlopjljmnadhcaaDoor
