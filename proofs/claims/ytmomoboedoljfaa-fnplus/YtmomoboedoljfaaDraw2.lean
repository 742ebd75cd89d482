/- The laws' draws: one place; a list that is ok. -/
import Derived.Test.YtmomoboedoljfaaDraw1
import Derived.Test.YtmomoboedoljfaaOr1
namespace Go.Proofs.Ytmomoboedoljfaa
open Go.ChangeShapes Go.WideShapes Go.ChangeAt Go.RowKit
set_option linter.unusedVariables false
set_option maxRecDepth 4000

theorem idsFrom_snoc : ∀ (l : List Int) (last i : Int), idsFrom last l = true → (∀ x ∈ l, x < i) → last < i → 0 ≤ i → i < 24 → idsFrom last (l ++ [i]) = true
  | [], last, i, _, _, h, h0, h1 => by simp [idsFrom]; omega
  | x :: r, last, i, h, hx, hl, h0, h1 => by
    simp only [idsFrom, Bool.and_eq_true, List.cons_append] at h ⊢
    exact ⟨h.1, idsFrom_snoc r x i h.2 (fun y hy => hx y (by simp [hy])) (hx x (by simp)) h0 h1⟩

/-- What the draw of one hands back: one that is ok, its numbers in a row of their own. -/
def AnyPost (w : World) (R p : Nat) (e : Ending) (w' : World) : Prop :=
  ∃ (o : Occ) (a : Option Addr) (c p' : Nat), e = .returned (.agg #[.int .i64 o.fr, .int .i64 o.tl, .slice a o.ids.length c]) ∧ o.Ok ∧ IntOwn w' w.heap.size a o.ids ∧ (∀ q, a = some q → q.block < w'.heap.size) ∧ Rd w' R p' ∧ p' ≤ p + 20 ∧ w.grownBy w' (some R)

theorem row5 (w : World) (x0 x1 x2 x3 x4 : Int) (t : TypeId) : Ints (w.alloc (.cells #[.int .i64 x0, .int .i64 x1, .int .i64 x2, .int .i64 x3, .int .i64 x4] t)) (some ⟨w.heap.size, 0, none⟩) [x0, x1, x2, x3, x4] := by
  refine ⟨by simp [maxLen], fun _ => ⟨_, _, rfl, by simp, fun i hi => ?_⟩⟩
  have h : (w.alloc (.cells #[.int .i64 x0, .int .i64 x1, .int .i64 x2, .int .i64 x3, .int .i64 x4] t)).heap[w.heap.size]? = some (.cells #[.int .i64 x0, .int .i64 x1, .int .i64 x2, .int .i64 x3, .int .i64 x4] t (0, 0)) := heap_alloc_new w _
  rw [oCell h]
  match i, hi with
  | 0, _ => rfl
  | 1, _ => rfl
  | 2, _ => rfl
  | 3, _ => rfl
  | 4, _ => rfl
theorem grown_below {w w' : World} {r : Option Nat} (hb : Below w.heap.size w w') : w.grownBy w' r := ⟨hb.os, hb.tape, hb.output, hb.size, fun i hi _ => hb.block i hi⟩
theorem keep_block {w w' : World} {R b : Nat} {x : Option Obj} (hg : w.grownBy w' (some R)) (h : w.heap[b]? = x) (hl : b < w.heap.size) (hne : b ≠ R) : w'.heap[b]? = x :=
  (hg.block b hl (fun e => hne (by simpa using e))).trans h

/-- What the draw of numbers has done so far. -/
def AnyInv (w : World) (R p A O : Nat) (f tl : Int) (n : Nat) (vd vi : Value) (wr : World) : Prop :=
  ∃ (j : Nat) (ids : List Int) (d : Int) (a : Option Addr) (c p' : Nat), vd = .int .i64 d ∧ vi = .int .i64 j ∧ ids.length + j = n ∧ 0 ≤ d ∧ d ≤ 2 + 3 * ids.length ∧ Hid (∀ x ∈ ids, x < d) ∧ Hid (idsFrom (-1) ids = true) ∧
    wr.heap[A]? = some (.cells #[.int .i64 0, .int .i64 0, .slice none 0 0] 32 (0, 0)) ∧ wr.heap[O]? = some (.cells #[.int .i64 f, .int .i64 tl, .slice a (List.length ids) c] 32 (0, 0)) ∧
    wr.ownsRow (O + 1) 3 1 (.slice a (List.length ids) c) ids.length (intCells ids) ∧ Rd wr R p' ∧ p' ≤ p + 4 + ids.length ∧ w.grownBy wr (some R)

set_option maxHeartbeats 1000000 in
theorem l3Any_any (R p : Nat) (w : World) (h : Rd w R p) (hp : p ≤ 90000) : Calls Try.prog 57 #[.pointer (some ⟨R, 0, none⟩)] w (AnyPost w R p) := by
  have hal := oBelow_new w (.cells #[.int .i64 0, .int .i64 0, .slice none 0 0] 32)
  have hB0 : (w.alloc (.cells #[.int .i64 0, .int .i64 0, .slice none 0 0] 32)).heap[w.heap.size]? = some (.cells #[.int .i64 0, .int .i64 0, .slice none 0 0] 32 (0, 0)) := heap_alloc_new w _
  have hs0 : (w.alloc (.cells #[.int .i64 0, .int .i64 0, .slice none 0 0] 32)).heap.size = w.heap.size + 1 := by simp
  obtain ⟨w0, hw0⟩ : ∃ w0, w.alloc (.cells #[.int .i64 0, .int .i64 0, .slice none 0 0] 32) = w0 := ⟨_, rfl⟩
  rw [hw0] at hal hB0 hs0
  have hRl := h.lt
  have hR0 := h.below hal
  go_enter Try.func57, Try.ntmps57
  go_wp2_with fail
  refine (pick_any R 9 p _ hR0 (by omega) (by omega) (by omega)).mono ?_
  rintro e w1 ⟨v1, rfl, _, hv1, hR1, hg1⟩
  have hv1' : (v1 : Int) < 9 := hv1 (by omega)
  clear hv1
  have hg01 : w.grownBy w1 (some R) := grownBy_trans (grown_below hal) hg1
  have hB1 := keep_block hg1 hB0 (by omega) (by omega)
  have hal1 := oBelow_new w1 (.cells #[.int .i64 0, .int .i64 0, .int .i64 1, .int .i64 2, .int .i64 5] 3)
  have hr5 := row5 w1 0 0 1 2 5 3
  have hs1 := hg1.size
  go_wp2_with fail
  refine (num_any R _ _ [0, 0, 1, 2, 5] (p + 1) _ (hR1.below hal1) (by omega) hr5 (by simp) (by simp) (fun q hq => by cases hq; show w1.heap.size ≠ R; omega)).mono ?_
  rintro e w2 ⟨y, hy, rfl, hR2, hg2⟩
  have hy0 : 0 ≤ y ∧ y ≤ 5 := by simp at hy; omega
  clear hy hr5
  have hg02 : w.grownBy w2 (some R) := grownBy_trans hg01 (grownBy_trans (grown_below hal1) hg2)
  have hB2 := keep_block hg2 ((hal1.block _ (by omega)).trans hB1) (by have := hal1.size; omega) (by omega)
  have hs2 := hg2.size
  have hs1a : (w1.alloc (.cells #[.int .i64 0, .int .i64 0, .int .i64 1, .int .i64 2, .int .i64 5] 3)).heap.size = w1.heap.size + 1 := by simp
  have hal2 := oBelow_new w2 (.cells #[.int .i64 (1 + (v1 : Int)), .int .i64 (1 + (v1 : Int) + y), .slice none 0 0] 32)
  have hO3 : (w2.alloc (.cells #[.int .i64 (1 + (v1 : Int)), .int .i64 (1 + (v1 : Int) + y), .slice none 0 0] 32)).heap[w2.heap.size]? = some (.cells #[.int .i64 (1 + (v1 : Int)), .int .i64 (1 + (v1 : Int) + y), .slice none 0 0] 32 (0, 0)) := heap_alloc_new w2 _
  have hs3 : (w2.alloc (.cells #[.int .i64 (1 + (v1 : Int)), .int .i64 (1 + (v1 : Int) + y), .slice none 0 0] 32)).heap.size = w2.heap.size + 1 := by simp
  go_wp2_with fail
  obtain ⟨w3, hw3⟩ : ∃ w3, w2.alloc (.cells #[.int .i64 (1 + (v1 : Int)), .int .i64 (1 + (v1 : Int) + y), .slice none 0 0] 32) = w3 := ⟨_, rfl⟩
  rw [hw3] at hal2 hO3 hs3
  have hR3 := hR2.below hal2
  have hB3 := (hal2.block _ (by omega)).trans hB2
  have hg03 : w.grownBy w3 (some R) := grownBy_trans hg02 (grown_below hal2)
  rw [hw3]
  refine (pick_any R 3 (p + 1 + 1) _ hR3 (by omega) (by omega) (by omega)).mono ?_
  rintro e w4 ⟨v4, rfl, _, hv4, hR4, hg4⟩
  have hv4' : (v4 : Int) < 3 := hv4 (by omega)
  have hO4 := keep_block hg4 hO3 (by omega) (by omega)
  have hB4 := keep_block hg4 hB3 (by omega) (by omega)
  have hg04 : w.grownBy w4 (some R) := grownBy_trans hg03 hg4
  have hs4 := hg4.size
  clear hv4 hw3
  go_wp2_with fail
  refine (pick_any R 3 (p + 1 + 1 + 1) _ hR4 (by omega) (by omega) (by omega)).mono ?_
  rintro e w5 ⟨v5, rfl, _, hv5, hR5, hg5⟩
  have hv5' : (v5 : Int) < 3 := hv5 (by omega)
  have hO5 := keep_block hg5 hO4 (by omega) (by omega)
  have hB5 := keep_block hg5 hB4 (by omega) (by omega)
  have hg05 : w.grownBy w5 (some R) := grownBy_trans hg04 hg5
  have hs5 := hg5.size
  clear hv5
  obtain ⟨i0, hi, hz0, hz1, hz2⟩ := info_int_parts
  obtain ⟨A, hA⟩ : ∃ A, w.heap.size = A := ⟨_, rfl⟩
  obtain ⟨O, hO⟩ : ∃ O, w2.heap.size = O := ⟨_, rfl⟩
  rw [hO] at hO5
  rw [hA] at hB5
  have hO5l := (Array.getElem?_eq_some_iff.1 hO5).1
  have hAO : A < O := by omega
  have hRA : R < A := by omega
  have Hs : Hid (w.heap.size = A) := hA
  go_wp2
  go_loopw [5, 6] (fun vd vi wr => AnyInv w R p A O (1 + (v1 : Int)) (1 + (v1 : Int) + y) (1 + v5) vd vi wr) (fun _ vi _ => (intOf vi).toNat)
  case atStart => exact ⟨1 + v5, [], v4, none, 0, p + 1 + 1 + 1 + 1, rfl, by go_num, by simp, by omega, by simp; omega, (by intro x hx; cases hx), rfl, hB5, hO5, World.ownsRow_nil _ _ _ _, hR5, by simp <;> omega, hg05⟩
  case round =>
    obtain ⟨j, ids, d, a, c, p', rfl, rfl, hjn, hd0, hd1, hlt, hid, hBr, hOr, hrow, hRr, hp', hgr⟩ := hrel
    have x0 := oCell hOr 0
    have x1 := oCell hOr 1
    have x2 := oCell hOr 2
    have z0 := oCell hBr 0
    have z1 := oCell hBr 1
    have z2 := oCell hBr 2
    simp at x0 x1 x2 z0 z1 z2
    have fO : ∀ o, wr.frozen? ⟨O, o, none⟩ = false := fun o => by simp [World.frozen?, hOr]
    have fA : ∀ o, wr.frozen? ⟨A, o, none⟩ = false := fun o => by simp [World.frozen?, hBr]
    have hOl := (Array.getElem?_eq_some_iff.1 hOr).1
    have hAl := (Array.getElem?_eq_some_iff.1 hBr).1
    by_cases hj : 0 < j
    · have hal := oBelow_new wr (.cells #[.int .i64 d] 3)
      have hOa := (hal.block O hOl).trans hOr
      have hBa := (hal.block A hAl).trans hBr
      have hRa := hRr.below hal
      go_wp2_with (at_builtin; refine wpList_append_where rfl _ _ 30 rfl (O + 1) 3 i0 (.int .i64 0) 1 8 Try.underlying30 hi hz0 hz1 hz2 rfl (by decide) (.slice a ids.length c) ids.length (intCells ids) rfl ?own ⟨wr.heap.size, 0, none⟩ 1 1 [.int .i64 d] rfl rfl ?c1 ?c2 ?c3 ?c4 ?c5 ?_)
      case own => exact pOwns_below hrow hal
      case c1 => first | (intro k u hk; match k, hk with | 0, hk => simp at hk; subst hk; simp [Addr.add]) | exact fun k u hk => hk
      case c2 => simp [Value.oneCell']
      case c3 => unfold maxLen; omega
      case c4 => omega
      case c5 => simp; omega
      intro v6 w6 r1 r2 r3
      obtain ⟨a6, c6, rfl⟩ := pOwns_slice r1
      have hsal : (wr.alloc (.cells #[.int .i64 d] 3)).heap.size = wr.heap.size + 1 := by simp
      have hown : ∀ k, (Value.slice a ids.length c).ownBlock = some k → O + 1 ≤ k := fun k hk => (hrow.lt k hk).1
      have hO6 := (r2.block O (by omega) (fun e => by have := hown O e.symm; omega)).trans hOa
      have hB6 := (r2.block A (by omega) (fun e => by have := hown A e.symm; omega)).trans hBa
      have hR6 : Rd w6 R p' := hRa.lower (B := O + 1) (by omega) ((Below.refl _ _).grown r2 (by omega) (fun k hk => hown k hk))
      have y0 := oCell hO6 0
      have y1 := oCell hO6 1
      have y2 := oCell hO6 2
      simp at y0 y1 y2
      have gO : ∀ o, w6.frozen? ⟨O, o, none⟩ = false := fun o => by simp [World.frozen?, hO6]
      have s6 := r2.size
      have hg6 : w.grownBy w6 (some R) := by
        refine ⟨r2.os.trans (hal.os.trans hgr.os), r2.tape.trans (hal.tape.trans hgr.tape), r2.output.trans (hal.output.trans hgr.output), by have := hgr.size; omega, fun k hk hne => ?_⟩
        have hkA : k < A := by rw [← Hs.out]; exact hk
        exact (r2.block k (by omega) (fun e => by have := hown k e.symm; omega)).trans ((hal.block k (by omega)).trans (hgr.block k hk hne))
      have hO7 := heap_setCell_same w6 O 2 _ _ (.slice a6 (ids.length + 1) c6) hO6
      have hg67 : w6.grownBy (w6.setCell ⟨O, 2, none⟩ (.slice a6 (ids.length + 1) c6)) (some O) := grownBy_setCell (grownBy_refl _ _) _
      have hB7 := keep_block hg67 hB6 (by omega) (by omega)
      have hR7 : Rd (w6.setCell ⟨O, 2, none⟩ (.slice a6 (ids.length + 1) c6)) R p' := hR6.lower (B := O) (by omega) ((Below.refl _ _).grown hg67 (by omega) (fun k hk => Nat.le_of_eq (by simpa using hk)))
      have hrow7 := r1.kept hg67 (.inr (fun e => by have := (r1.lt O e).1; omega))
      have s7 := hg67.size
      have hg07 : w.grownBy (w6.setCell ⟨O, 2, none⟩ (.slice a6 (ids.length + 1) c6)) (some R) := by
        refine ⟨hg67.os.trans hg6.os, hg67.tape.trans hg6.tape, hg67.output.trans hg6.output, Nat.le_trans hg6.size hg67.size, fun k hk hne => ?_⟩
        have hkA : k < A := by rw [← Hs.out]; exact hk
        exact (hg67.block k (by omega) (fun e => absurd (show k = O by simpa using e) (by omega))).trans (hg6.block k hk hne)
      obtain ⟨w7, hw7⟩ : ∃ w7, w6.setCell ⟨O, 2, none⟩ (.slice a6 (ids.length + 1) c6) = w7 := ⟨_, rfl⟩
      rw [hw7] at hO7 hB7 hR7 hrow7 s7 hg07 hg67
      have hidn : Hid (idsFrom (-1) (ids ++ [d]) = true) := idsFrom_snoc ids (-1) d hid.out hlt.out (by omega) hd0 (by omega)
      have hltn : Hid (∀ x ∈ ids, x < d) := hlt
      clear x0 x1 x2 z0 z1 z2
      go_wp2_with fail
      refine (pick_any R 3 p' _ hR7 (by omega) (by omega) (by omega)).mono ?_
      rintro e w8 ⟨v8, rfl, _, hv8, hR8, hg8⟩
      have hv8' : (v8 : Int) < 3 := hv8 (by omega)
      have hO8 := keep_block hg8 hO7 (by omega) (by omega)
      have hB8 := keep_block hg8 hB7 (by omega) (by omega)
      have hrow8 := hrow7.kept hg8 (.inr (fun e => by have := (hrow7.lt R e).1; omega))
      clear hv8
      go_wp2
      refine ⟨⟨j - 1, ids ++ [d], d + 1 + v8, a6, c6, p' + 1, rfl, by go_num, by simp; omega, by omega, by simp; omega, ?_, hidn, hB8, by simpa using hO8, by simpa [intCells] using hrow8, hR8, by simp; omega, grownBy_trans hg07 hg8⟩, by simp [intOf]; omega⟩
      intro x hx
      rcases List.mem_append.1 hx with hx | hx
      · have := hltn.out x hx; omega
      · simp at hx; omega
    · have hj0 : j = 0 := by omega
      subst hj0
      have hok : Occ.Ok ⟨1 + (v1 : Int), 1 + (v1 : Int) + y, ids⟩ := by
        show occOkB _ _ _ = true
        simp only [occOkB, Bool.and_eq_true, decide_eq_true_eq]
        exact ⟨⟨by omega, by omega, by omega, by omega⟩, hid.out⟩
      have Hok : Hid (Occ.Ok ⟨1 + (v1 : Int), 1 + (v1 : Int) + y, ids⟩) := hok
      clear hok
      go_wp2
      have hown : ∀ k, (Value.slice a ids.length c).ownBlock = some k → O + 1 ≤ k := fun k hk => (hrow.lt k hk).1
      obtain ⟨w9, hw9⟩ : ∃ w9, ((wr.setCell ⟨A, 0, none⟩ (.int .i64 (1 + (v1 : Int)))).setCell ⟨A, 1, none⟩ (.int .i64 (1 + (v1 : Int) + y))).setCell ⟨A, 2, none⟩ (.slice a ids.length c) = w9 := ⟨_, rfl⟩
      have hg9 : wr.grownBy w9 (some A) := by rw [← hw9]; exact grownBy_setCell (grownBy_setCell (grownBy_setCell (grownBy_refl _ _) _) _) _
      have e0 : w9.cell? ⟨A, 0, none⟩ = some (.int .i64 (1 + (v1 : Int))) := by rw [← hw9]; simp [go_sem, z0]
      have e1 : w9.cell? ⟨A, 1, none⟩ = some (.int .i64 (1 + (v1 : Int) + y)) := by rw [← hw9]; simp [go_sem, z1]
      have e2 : w9.cell? ⟨A, 2, none⟩ = some (.slice a ids.length c) := by rw [← hw9]; simp [go_sem, z2]
      have hR9 : Rd w9 R p' := hRr.lower (B := A) (by omega) ((Below.refl _ _).grown hg9 (by omega) (fun k hk => Nat.le_of_eq (by simpa using hk)))
      have hrow9 := hrow.kept hg9 (.inr (fun e => by have := hown A e; omega))
      have hi9 := pOwn_of_row hrow9
      have hfin : AnyPost w R p (.returned (.agg #[.int .i64 (1 + (v1 : Int)), .int .i64 (1 + (v1 : Int) + y), .slice a ids.length c])) w9 := by
        refine ⟨⟨1 + (v1 : Int), 1 + (v1 : Int) + y, ids⟩, a, c, p', rfl, Hok.out, ⟨hi9.len, fun x hx => ?_, fun hl => ?_⟩, fun q hq => ?_, hR9, by omega, ?_⟩
        · have := hi9.ge x hx; rw [Hs.out]; omega
        · obtain ⟨b, e, q1, q2⟩ := hi9.row hl
          exact ⟨b, e, by rw [Hs.out]; omega, q2⟩
        · subst hq; exact (hrow9.lt q.block rfl).2
        · refine ⟨hg9.os.trans hgr.os, hg9.tape.trans hgr.tape, hg9.output.trans hgr.output, Nat.le_trans hgr.size hg9.size, fun k hk hne => ?_⟩
          have hkA : k < A := by rw [← Hs.out]; exact hk
          exact (hg9.block k (by omega) (fun e => absurd (show k = A by simpa using e) (by omega))).trans (hgr.block k hk hne)
      rw [hw9]
      refine bodyPost_ret (v := .agg #[.int .i64 (1 + (v1 : Int)), .int .i64 (1 + (v1 : Int) + y), .slice a ids.length c]) (by simp [results, Try.results57, go_sem, e0, e1, e2]) rfl hfin
end Go.Proofs.Ytmomoboedoljfaa
