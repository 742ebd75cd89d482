/- The laws' draws: what happened. -/
import Derived.Test.YtjahlelgdlbobaaDraw1
import Derived.Test.YtjahlelgdlbobaaEvs4
namespace Go.Proofs.Ytjahlelgdlbobaa
open Go.ChangeShapes Go.WideShapes Go.ChangeAt Go.RowKit
set_option linter.unusedVariables false
set_option maxRecDepth 4000
theorem eBelow_new (w : World) (o : Obj) : Below w.heap.size w (w.alloc o) := (Below.refl _ _).alloc (Nat.le_refl _) _
theorem eGrown {w w' : World} {r : Option Nat} (hb : Below w.heap.size w w') : w.grownBy w' r := ⟨hb.os, hb.tape, hb.output, hb.size, fun i hi _ => hb.block i hi⟩
theorem eGrown_new {w w' w'' : World} {r r' : Option Nat} (h : w.grownBy w' r) (k : w'.grownBy w'' r') (hr : ∀ x, r' = some x → w.heap.size ≤ x) : w.grownBy w'' r :=
  ⟨k.1.trans h.1, k.2.trans h.2, k.3.trans h.3, Nat.le_trans h.4 k.4, fun x hx hne => (k.5 x (Nat.lt_of_lt_of_le hx h.4) (fun e => by have := hr x e.symm; omega)).trans (h.5 x hx hne)⟩
theorem eOwns_below {w w' : World} {B : Nat} {e : TypeId} {z : Nat} {v : Value} {n : Nat} {xs : List Value} (h : w.ownsRow B e z v n xs) (hb : Below w.heap.size w w') : w'.ownsRow B e z v n xs :=
  h.kept (eGrown (r := none) hb) (by by_cases h : v.ownBlock = none; exact .inl h; exact .inr h)
/-- A row of numbers that was just made. -/
theorem ints_new (w : World) (l : List Int) (hl : l.length ≤ maxLen) (t : TypeId) : Ints (w.alloc (.cells (l.map (Value.int .i64)).toArray t)) (some ⟨w.heap.size, 0, none⟩) l := by
  refine ⟨hl, fun _ => ⟨_, _, rfl, by simp, fun i hi => ?_⟩⟩
  have h : (w.alloc (.cells (l.map (Value.int .i64)).toArray t)).heap[w.heap.size]? = some (.cells (l.map (Value.int .i64)).toArray t (0, 0)) := heap_alloc_new w _
  rw [oCellD h]
  simp [hi]
theorem Rd.grown {w w' : World} {R p b : Nat} (h : Rd w R p) (hg : w.grownBy w' (some b)) (hb : R < b) : Rd w' R p := by
  obtain ⟨ab, cb, l, t, hh, h1, h2, h3⟩ := h.ex
  refine ⟨⟨ab, cb, l, t, (hg.5 R h.lt (fun e => by have := Option.some.inj e; omega)).trans hh, h1.only hg (fun x hx hl e => by have := h3 x hx hl; have := Option.some.inj e; omega), h2, h3⟩, h.le⟩
theorem Rd.row {w w' : World} {R p : Nat} {r : Option Nat} (h : Rd w R p) (hg : w.grownBy w' r) (hr : ∀ b, r = some b → R < b) : Rd w' R p := by
  cases r with
  | none => exact h.below ⟨hg.1, hg.2, hg.3, hg.4, fun b hb => hg.5 b hb (by simp)⟩
  | some b => exact h.grown hg (hr b rfl)
/-- What a draw of what happened hands back. -/
def EvsDraw (w : World) (R p k M : Nat) (T : Int) (e : Ending) (w' : World) : Prop :=
  ∃ (v : Value) (l : List Ev) (p' : Nat), e = .returned v ∧ w'.ownsRow w.heap.size 30 3 v l.length (evCells l) ∧ l.length ≤ M ∧ Hid (∀ x ∈ l, 0 ≤ x.at' ∧ x.at' ≤ T) ∧ Rd w' R p' ∧ p' ≤ p + k ∧ w.grownBy w' (some R)
set_option maxHeartbeats 2000000 in
theorem l1Evs_any (R p : Nat) (w : World) (h : Rd w R p) (hp : p ≤ 90000) : Calls Try.prog 21 #[.pointer (some ⟨R, 0, none⟩), .int .i64 12] w (EvsDraw w R p 40 12 1200) := by
  obtain ⟨i0, hi, hz0, hz1, hz2⟩ := info_ev_parts
  have hRl := h.lt
  have hb0 := eBelow_new w (.cells #[] 30)
  have hown0 : (w.alloc (.cells #[] 30)).ownsRow w.heap.size 30 3 (.slice (some ⟨w.heap.size, 0, none⟩) 0 0) 0 [] := World.ownsRow_made w #[] 0 (Nat.le_refl _) (by simp [maxLen]) rfl
  go_enter Try.func21, Try.ntmps21
  go_wp2_with fail
  refine (pick_any R 13 p _ (h.below hb0) (by omega) (by omega) (by omega)).mono ?_
  rintro e w1 ⟨v1, rfl, _, hv1, hR1, hg1⟩
  have hv1' : (v1 : Int) < 13 := hv1 (by omega)
  have hv12 : v1 ≤ 12 := by omega
  have hown1 := hown0.kept hg1 (.inr fun e => by have : w.heap.size = R := Option.some.inj e; omega)
  have g01 : w.grownBy w1 (some R) := grownBy_trans (eGrown hb0) hg1
  clear hv1
  go_wp2_with fail
  go_loopw [5, 6, 7] (fun v a i wr => ∃ (j p' : Nat) (t : Int) (l : List Ev), i = .int .i64 j ∧ a = .int .i64 t ∧ l.length + j = v1 ∧ 0 ≤ t ∧ t ≤ 7 * l.length ∧ wr.ownsRow w.heap.size 30 3 v l.length (evCells l) ∧ Hid (∀ x ∈ l, 0 ≤ x.at' ∧ x.at' ≤ 1200) ∧ Rd wr R p' ∧ p' ≤ p + 1 + 3 * l.length ∧ w.grownBy wr (some R)) (fun _ _ i _ => (intOf i).toNat)
  case atStart => exact ⟨v1, p + 1, 0, [], rfl, rfl, by simp, by omega, by simp, hown1, (fun x hx => by cases hx), hR1, by simp, g01⟩
  case round =>
    obtain ⟨j, p', t, l, rfl, rfl, hlj, ht0, ht1, hown, hbd, hRr, hp', hgr⟩ := hrel
    have hsz := hgr.4
    by_cases hj : 0 < j
    · have hj' : (0 : Int) < (j : Int) := by omega
      have hr1 : Ints (wr.alloc (.cells #[.int .i64 1, .int .i64 1, .int .i64 1, .int .i64 2, .int .i64 3, .int .i64 7] 3)) _ [1, 1, 1, 2, 3, 7] := ints_new wr [1, 1, 1, 2, 3, 7] (by simp [maxLen]) 3
      have hb1 := eBelow_new wr (.cells #[.int .i64 1, .int .i64 1, .int .i64 1, .int .i64 2, .int .i64 3, .int .i64 7] 3)
      go_wp2_with fail
      refine (num_any R _ 6 [1, 1, 1, 2, 3, 7] p' _ (hRr.below hb1) (by omega) hr1 (by simp) (by simp) (fun q hq => by cases hq; show wr.heap.size ≠ R; omega)).mono ?_
      rintro e w2 ⟨y1, hy1, rfl, hR2, hg2⟩
      have hy1' : 1 ≤ y1 ∧ y1 ≤ 7 := by simp at hy1; omega
      have gr2 : w.grownBy w2 (some R) := grownBy_trans (grownBy_trans hgr (eGrown hb1)) hg2
      have hown2 := (eOwns_below hown hb1).kept hg2 (.inr fun e => by have := (hown.lt _ e).1; omega)
      have hs2 := hg2.4
      have hs2' := hb1.size
      clear hy1 hr1
      have hr2 : Ints (w2.alloc (.cells #[.int .i64 0, .int .i64 0, .int .i64 1, .int .i64 1, .int .i64 2, .int .i64 2, .int .i64 3, .int .i64 4] 3)) _ [0, 0, 1, 1, 2, 2, 3, 4] := ints_new w2 [0, 0, 1, 1, 2, 2, 3, 4] (by simp [maxLen]) 3
      have hb2 := eBelow_new w2 (.cells #[.int .i64 0, .int .i64 0, .int .i64 1, .int .i64 1, .int .i64 2, .int .i64 2, .int .i64 3, .int .i64 4] 3)
      go_wp2_with fail
      refine (num_any R _ 8 [0, 0, 1, 1, 2, 2, 3, 4] (p' + 1) _ (hR2.below hb2) (by omega) hr2 (by simp) (by simp) (fun q hq => by cases hq; show w2.heap.size ≠ R; omega)).mono ?_
      rintro e w3 ⟨y2, hy2, rfl, hR3, hg3⟩
      have gr3 : w.grownBy w3 (some R) := grownBy_trans (grownBy_trans gr2 (eGrown hb2)) hg3
      have hown3 := (eOwns_below hown2 hb2).kept hg3 (.inr fun e => by have := (hown.lt _ e).1; omega)
      have hs3 := hg3.4
      have hs3' := hb2.size
      clear hy2 hr2
      have hr3 : Ints (w3.alloc (.cells #[.int .i64 0, .int .i64 0, .int .i64 1, .int .i64 5, .int .i64 100] 3)) _ [0, 0, 1, 5, 100] := ints_new w3 [0, 0, 1, 5, 100] (by simp [maxLen]) 3
      have hb3 := eBelow_new w3 (.cells #[.int .i64 0, .int .i64 0, .int .i64 1, .int .i64 5, .int .i64 100] 3)
      go_wp2_with fail
      refine (num_any R _ 5 [0, 0, 1, 5, 100] (p' + 1 + 1) _ (hR3.below hb3) (by omega) hr3 (by simp) (by simp) (fun q hq => by cases hq; show w3.heap.size ≠ R; omega)).mono ?_
      rintro e w4 ⟨y3, hy3, rfl, hR4, hg4⟩
      have gr4 : w.grownBy w4 (some R) := grownBy_trans (grownBy_trans gr3 (eGrown hb3)) hg4
      have hown4 := (eOwns_below hown3 hb3).kept hg4 (.inr fun e => by have := (hown.lt _ e).1; omega)
      have hs4 := gr4.4
      clear hy3 hr3
      have hl12 : l.length + 1 ≤ 12 := by omega
      go_wp2_with (at_builtin; refine wpList_append_own _ rfl _ _ 23 rfl w.heap.size 30 i0 (.agg #[.int .i64 0, .int .i64 0, .int .i64 0]) 3 24 Try.underlying23 hi hz0 hz1 hz2 rfl (by decide) _ _ _ rfl (hown4.alloc _) ⟨w4.heap.size, 0, none⟩ 1 1 [.int .i64 y2, .int .i64 (t + y1), .int .i64 y3] rfl rfl ?c1 ?c2 ?c3 ?c4 ?c5 ?_)
      case c1 => simpa using new_ev w4 ⟨y2, t + y1, y3⟩ 30
      case c2 => intro u hu; simp at hu; rcases hu with rfl | rfl | rfl <;> rfl
      case c3 => unfold maxLen; omega
      case c4 => omega
      case c5 => simp; omega
      intro v' w5 hown5 hgr5 _
      have hb4 := eBelow_new w4 (.cells #[.int .i64 y2, .int .i64 (t + y1), .int .i64 y3] 30)
      have gr5 : w.grownBy w5 (some R) := eGrown_new (grownBy_trans gr4 (eGrown hb4)) hgr5 (fun x hx => (hown4.lt x hx).1)
      have hR5 := (hR4.below hb4).row hgr5 (fun b hb => by have := (hown4.lt b hb).1; omega)
      go_wp2
      refine ⟨⟨j - 1, p' + 1 + 1 + 1, t + y1, l ++ [⟨y2, t + y1, y3⟩], by go_num, rfl, by simp; omega, by omega, by simp; omega, ?_, ?_, hR5, by simp; omega, gr5⟩, by simp [intOf]; omega⟩
      · rw [evCells_snoc, List.length_append]; exact hown5
      · intro x hx
        rcases List.mem_append.1 hx with hx | hx
        · exact hbd.out x hx
        · simp only [List.mem_singleton] at hx
          subst hx
          show 0 ≤ t + y1 ∧ t + y1 ≤ 1200
          omega
    · go_wp2
      go_ret
      exact ⟨_, l, p', rfl, hown, by omega, hbd, hRr, by omega, hgr⟩
end Go.Proofs.Ytjahlelgdlbobaa
