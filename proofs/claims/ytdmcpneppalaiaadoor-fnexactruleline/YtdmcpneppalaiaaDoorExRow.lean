/- A row of parts that can be read. -/
import Derived.Test.YtdmcpneppalaiaaDoorExImpl
namespace Go.Proofs.YtdmcpneppalaiaaDoor
open Go.ChangeShapes Go.WideShapes Go.ChangeAt Go.RowKit
set_option linter.unusedVariables false

/-- A row of parts that can be read. -/
def Row4 (w : World) (g : Nat) (q : List Hd) : Prop := ∃ cur f, w.heap[g]? = some (.cells cur 31 f) ∧ cur.toList.take (q.length * 4) = hdCells q
theorem row4_of {w : World} {B g c : Nat} {q : List Hd} (h : w.ownsRow B 31 4 (.slice (some ⟨g, 0, none⟩) q.length c) q.length (hdCells q)) : Row4 w g q := by
  rcases h.2 with ⟨h, _⟩ | ⟨g2, c2, cur, h, _, h1, _, _, _, h4⟩
  · simp at h
  · simp only [Value.slice.injEq, Option.some.injEq, Addr.mk.injEq, and_true, true_and] at h
    obtain ⟨rfl, rfl⟩ := h
    exact ⟨cur, _, h1, h4⟩
theorem hdCells_len (q : List Hd) : (hdCells q).length = q.length * 4 := by
  induction q with
  | nil => rfl
  | cons x q ih => simp [hdCells] at ih ⊢; omega
theorem hdCells_at (q : List Hd) (k j : Nat) (hk : k < q.length) (hj : j < 4) : (hdCells q)[k * 4 + j]? = ([.int .i64 q[k].kd, .int .i64 q[k].sy, .int .i64 q[k].n, .slice q[k].a q[k].len q[k].cap] : List Value)[j]? := by
  induction q generalizing k with
  | nil => simp at hk
  | cons x q ih =>
    have hc : hdCells (x :: q) = [.int .i64 x.kd, .int .i64 x.sy, .int .i64 x.n, .slice x.a x.len x.cap] ++ hdCells q := by simp [hdCells]
    rw [hc]
    cases k with
    | zero => rw [List.getElem?_append_left (by simp; omega)]; simp
    | succ k =>
      rw [List.getElem?_append_right (by simp; omega)]
      have := ih k (by simpa using hk)
      simp only [List.length_cons, List.length_nil, List.getElem_cons_succ] at this ⊢
      rw [← this]
      congr 1
      omega
theorem Row4.at {w : World} {g : Nat} {q : List Hd} (h : Row4 w g q) {k : Nat} (hk : k < q.length) :
    w.cell? ⟨g, k * 4, none⟩ = some (.int .i64 q[k].kd) ∧ w.cell? ⟨g, k * 4 + 1, none⟩ = some (.int .i64 q[k].sy) ∧ w.cell? ⟨g, k * 4 + 2, none⟩ = some (.int .i64 q[k].n) ∧ w.cell? ⟨g, k * 4 + 3, none⟩ = some (.slice q[k].a q[k].len q[k].cap) := by
  obtain ⟨cur, f, h1, h2⟩ := h
  have hc : ∀ j, j < 4 → w.cell? ⟨g, k * 4 + j, none⟩ = ([.int .i64 q[k].kd, .int .i64 q[k].sy, .int .i64 q[k].n, .slice q[k].a q[k].len q[k].cap] : List Value)[j]? := by
    intro j hj
    rw [cell_at h1, ← hdCells_at q k j hk hj, ← h2, List.getElem?_take, if_pos (by omega)]
    simp
  exact ⟨hc 0 (by omega), hc 1 (by omega), hc 2 (by omega), hc 3 (by omega)⟩
theorem Row4.lt {w : World} {g : Nat} {q : List Hd} (h : Row4 w g q) : g < w.heap.size := by
  obtain ⟨cur, f, h1, _⟩ := h; exact (Array.getElem?_eq_some_iff.1 h1).1
theorem Row4.below {w w' : World} {g : Nat} {q : List Hd} (h : Row4 w g q) (hb : Below w.heap.size w w') : Row4 w' g q := by
  have hl := h.lt
  obtain ⟨cur, f, h1, h2⟩ := h
  exact ⟨cur, f, (hb.block g hl).trans h1, h2⟩
/-- An append to a list of another kind leaves it. -/
theorem Row4.grownOf {w w' : World} {g B k z : Nat} {t : TypeId} {q : List Hd} {v : Value} {xs : List Value} (hne : t ≠ 31) (h : Row4 w g q) (ho : w.ownsRow B t z v k xs) (hg : w.grownBy w' v.ownBlock) : Row4 w' g q := by
  have hl := h.lt
  obtain ⟨cur, f, h1, h2⟩ := h
  refine ⟨cur, f, (hg.block g hl ?_).trans h1, h2⟩
  intro e
  rcases ho.2 with ⟨rfl, _⟩ | ⟨g2, c2, cur2, rfl, _, h3, _⟩
  · simp [Value.ownBlock] at e
  · obtain rfl : g = g2 := by simpa [Value.ownBlock] using e
    rw [h1] at h3
    simp at h3
    exact hne h3.2.1.symm
end Go.Proofs.YtdmcpneppalaiaaDoor
