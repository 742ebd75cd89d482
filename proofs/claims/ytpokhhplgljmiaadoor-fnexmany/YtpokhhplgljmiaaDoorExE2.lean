/- Pairs of lists that should be the same: what ExSame keeps of them. -/
import Derived.Test.YtpokhhplgljmiaaDoorExE1
import Derived.Deep.Onto
import Derived.RangeFuncBox
import Derived.OwnWalk
namespace Go.Proofs.YtpokhhplgljmiaaDoor
open Go.ChangeShapes Go.WideShapes Go.ChangeAt Go.RowKit
set_option linter.unusedVariables false
set_option maxRecDepth 4000

/-- Two lists: where they lie, what they hold, the blocks of the first. -/
structure Tw where
  a : Option Addr
  ca : Nat
  F : Fo
  b : Option Addr
  cb : Nat
  G : Fo
  S : List Nat
def Tw.cells (t : Tw) : List Value := [.slice t.a t.F.len t.ca, .slice t.b t.G.len t.cb]
def twCells (l : List Tw) : List Value := l.flatMap Tw.cells
theorem twCells_snoc (l : List Tw) (t : Tw) : twCells (l ++ [t]) = twCells l ++ [.slice t.a t.F.len t.ca, .slice t.b t.G.len t.cb] := by simp [twCells, Tw.cells]
theorem twCells_len (l : List Tw) : (twCells l).length = l.length * 2 := by
  induction l with
  | nil => rfl
  | cons x l ih => simp [twCells, Tw.cells] at ih ⊢; omega

/-- Both lie in memory; the first in blocks of its own. -/
structure Own1 (w : World) (t : Tw) : Prop where
  lenA : t.F.len ≤ maxLen
  none : t.F.len = 0 → t.S = []
  some : 0 < t.F.len → ∃ b' S', t.a = some ⟨b', 0, Option.none⟩ ∧ t.S = b' :: S' ∧ Blk w b' ∧ OwnKids w b' 0 t.F.len S' t.F
  slc : Slc w t.b t.G

/-- One of a list, and its blocks. -/
theorem OwnKids.atK {w : World} : ∀ (F : Fo) (b off i : Nat) (S : List Nat) (k : Nat), OwnKids w b off i S F → k < i → k < F.len → ∃ kd sy n kids a cap S1,
      F.drop k = .cons kd sy n kids (F.drop (k + 1)) ∧ w.cell? ⟨b, off + k * 4, none⟩ = some (.int .i64 kd) ∧ w.cell? ⟨b, off + k * 4 + 1, none⟩ = some (.int .i64 sy) ∧ w.cell? ⟨b, off + k * 4 + 2, none⟩ = some (.int .i64 n) ∧
      w.cell? ⟨b, off + k * 4 + 3, none⟩ = some (.slice a kids.len cap) ∧ kids.len ≤ maxLen ∧ (kids.len = 0 → S1 = []) ∧
      (0 < kids.len → ∃ b' S', a = some ⟨b', 0, none⟩ ∧ S1 = b' :: S' ∧ Blk w b' ∧ OwnKids w b' 0 kids.len S' kids)
  | .nil, _, _, _, _, _, _, _, h => by simp [Fo.len] at h
  | .cons kd sy n kids rest, b, off, 0, S, k, h, hk, _ => by omega
  | .cons kd sy n kids rest, b, off, i + 1, S, 0, ⟨S1, S2, e, ⟨h1, h2, h3⟩, ⟨a, cap, h4, h5, h6, h7⟩, h8⟩, hk, hl => by
    exact ⟨kd, sy, n, kids, a, cap, S1, by simp [Fo.drop], by simpa using h1, by simpa using h2, by simpa using h3, by simpa using h4, h5, h6, h7⟩
  | .cons kd sy n kids rest, b, off, i + 1, S, k + 1, ⟨S1, S2, e, ⟨h1, h2, h3⟩, ⟨a, cap, h4, h5, h6, h7⟩, h8⟩, hk, hl => by
    obtain ⟨kd', sy', n', kids', a', cap', S1', g0, g1, g2, g3, g4, g5, g6, g7⟩ := OwnKids.atK rest b (off + 4) i S2 k h8 (by omega) (by simpa [Fo.len] using hl)
    rw [show off + 4 + k * 4 = off + (k + 1) * 4 by omega] at g1 g2 g3 g4
    exact ⟨kd', sy', n', kids', a', cap', S1', by simpa [Fo.drop] using g0, g1, g2, g3, g4, g5, g6, g7⟩

/-- The blocks of a list from its k-th on. -/
theorem OwnKids.tail {w : World} : ∀ (F : Fo) (b off i : Nat) (S : List Nat), OwnKids w b off (i + 1) S F → 0 < F.len → ∃ kd sy n kids rest a cap S1 S2, F = .cons kd sy n kids rest ∧ S = S1 ++ S2 ∧
      w.cell? ⟨b, off, none⟩ = some (.int .i64 kd) ∧ w.cell? ⟨b, off + 1, none⟩ = some (.int .i64 sy) ∧ w.cell? ⟨b, off + 2, none⟩ = some (.int .i64 n) ∧ w.cell? ⟨b, off + 3, none⟩ = some (.slice a kids.len cap) ∧ kids.len ≤ maxLen ∧ (kids.len = 0 → S1 = []) ∧
      (0 < kids.len → ∃ b' S', a = some ⟨b', 0, none⟩ ∧ S1 = b' :: S' ∧ Blk w b' ∧ OwnKids w b' 0 kids.len S' kids) ∧ OwnKids w b (off + 4) i S2 rest
  | .nil, _, _, _, _, _, h => by simp [Fo.len] at h
  | .cons kd sy n kids rest, b, off, i, S, ⟨S1, S2, e, ⟨h1, h2, h3⟩, ⟨a, cap, h4, h5, h6, h7⟩, h8⟩, _ => ⟨kd, sy, n, kids, rest, a, cap, S1, S2, rfl, e, h1, h2, h3, h4, h5, h6, h7, h8⟩

theorem belE2 (w : World) (o o' : Obj) : Below w.heap.size w ((w.alloc o).alloc o') := ((Below.refl _ _).alloc (Nat.le_refl _) _).alloc (by simp) _
theorem belE1 (w : World) (o : Obj) : Below w.heap.size w (w.alloc o) := (Below.refl _ _).alloc (Nat.le_refl _) _
/-- The last is taken off a row. -/
theorem own_pop {w : World} {B g cap n : Nat} {e : TypeId} {xs : List Value} {y0 y1 : Value} (h : w.ownsRow B e 2 (.slice (some ⟨g, 0, none⟩) (n + 1) cap) (n + 1) (xs ++ [y0, y1])) :
    w.ownsRow B e 2 (.slice (some ⟨g, 0, none⟩) n cap) n xs ∧ w.cell? ⟨g, n * 2, none⟩ = some y0 ∧ w.cell? ⟨g, n * 2 + 1, none⟩ = some y1 := by
  have hl := h.1
  simp at hl
  have hxl : xs.length = n * 2 := by omega
  rcases h.2 with ⟨h, _⟩ | ⟨g2, c2, cur, h, hb, hg, hn, hm, hs, htk⟩
  · simp at h
  simp only [Value.slice.injEq, Option.some.injEq, Addr.mk.injEq, and_true, true_and] at h
  obtain ⟨rfl, rfl⟩ := h
  have hc : ∀ j, j < 2 → w.cell? ⟨g, n * 2 + j, none⟩ = ([y0, y1] : List Value)[j]? := by
    intro j hj
    rw [cell_at hg]
    have := congrArg (fun l => l[n * 2 + j]?) htk
    simp only [List.getElem?_take] at this
    rw [if_pos (by omega), List.getElem?_append_right (by omega), hxl, Nat.add_sub_cancel_left] at this
    rw [← this]; simp
  refine ⟨⟨hxl, .inr ⟨g, cap, cur, rfl, hb, hg, by omega, hm, hs, ?_⟩⟩, hc 0 (by omega), hc 1 (by omega)⟩
  have := congrArg (List.take (n * 2)) htk
  rw [List.take_take, Nat.min_eq_left (by omega), List.take_left' hxl] at this
  exact this

set_option maxHeartbeats 1000000 in
theorem key_any (pa pb : Addr) (la lb ca cb : Nat) (w : World) (ha : 0 < la) (hb : 0 < lb) (hla : la ≤ maxLen) (hlb : lb ≤ maxLen) :
    Calls Tryd.prog 26 #[.agg #[.slice (some pa) la ca, .slice (some pb) lb cb]] w fun e w' => e = .returned (keyV pa pb la) ∧ Below w.heap.size w w' := by
  unfold maxLen at hla hlb
  have ha' : (0 : Int) < (la : Int) := by omega
  have hb' : (0 : Int) < (lb : Int) := by omega
  go_enter Tryd.func26, Tryd.ntmps26
  go_wp2_with fail
  go_region
  all_goals go_wp2
  all_goals refine bodyPost_ret (v := keyV pa pb la) (by simp [results, Tryd.results26, go_sem]) rfl ⟨rfl, ?_⟩
  all_goals exact (belE2 _ _ _).drew
end Go.Proofs.YtpokhhplgljmiaaDoor
