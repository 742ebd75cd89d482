/- The list of all parts: what the program's exList answers. -/
import Derived.Test.YtpokhhplgljmiaaDoorExN
import Derived.ArgAppend
import Derived.Laws.OwnMore
import Derived.Deep.Onto
namespace Go.Proofs.YtpokhhplgljmiaaDoor
open Go.ChangeShapes Go.WideShapes Go.ChangeAt Go.RowKit
set_option linter.unusedVariables false

theorem info_ex_parts : ∃ i, Tryd.prog.info? 25 = some i ∧ i.zero = some (.agg #[.int .i64 0, .int .i64 0, .int .i64 0, .slice none 0 0]) ∧ i.size = 4 ∧ i.bytes = 48 := by
  have hi : (Tryd.prog.info? 25).map (fun i => (i.zero, i.size, i.bytes)) = some (some (.agg #[.int .i64 0, .int .i64 0, .int .i64 0, .slice none 0 0]), 4, 48) := by kernel_rfl
  cases h : Tryd.prog.info? 25 with
  | none => rw [h] at hi; simp at hi
  | some i => rw [h] at hi; simp at hi; exact ⟨i, rfl, hi⟩

/-- An append to an owned row: where the new row lies. -/
theorem append_where {P : Program} (w : World) (base : Nat) (t ty e : TypeId) (i : TypeInfo) (z : Value) (size bytes : Nat) (ht : P.underlying t = some (.slice e)) (hi : P.info? e = some i) (hz : i.zero = some z)
    (hsize : i.size = size) (hby : i.bytes = bytes) (hzs : z.cells.size = size) (hsz : 0 < size)
    (v : Value) (n : Nat) (xs : List Value) (hown : w.ownsRow base e size v n xs)
    (a : Addr) (m c : Nat) (news : List Value) (hl : news.length = m * size) (hnews : ∀ j u, news[j]? = some u → w.cell? (a.add j) = some u) (h1 : ∀ u ∈ news, u.oneCell' = true)
    (h63 : n + m ≤ maxLen) (hbytes : (n + m) * bytes ≤ 140737488355328) (hbase : base ≤ w.heap.size) :
    ∃ v' w', (Builtin.append_ #[t, t] ty #[v, .slice (some a) m c]).run P w = .ok v' w' ∧ w'.ownsRow base e size v' (n + m) (xs ++ news) ∧ w.grownBy w' v.ownBlock ∧ ∀ k, v'.ownBlock = some k → v.ownBlock = some k ∨ w.heap.size ≤ k := by
  rcases hown.2 with ⟨rfl, rfl⟩ | ⟨g, cap, cur, rfl, hb, hg, hn, hcm, hcs, htk⟩
  · obtain rfl : xs = [] := List.eq_nil_of_length_eq_zero (by simpa using hown.1)
    obtain ⟨v', w', r, r1, r2, _⟩ := run_append_own (P := P) w w.heap.size t ty e i z size bytes ht hi hz hsize hby hzs hsz (.slice none 0 0) 0 [] (World.ownsRow_nil _ _ _ _) a m c news hl hnews h1 h63 hbytes (Nat.le_refl _)
    exact ⟨v', w', r, r1.mono hbase, r2, fun k hk => .inr (r1.lt k hk).1⟩
  · by_cases hr : cap < n + m
    · have hcell : ∀ j u, xs[j]? = some u → w.cell? ((⟨g, 0, none⟩ : Addr).add j) = some u := by
        intro j u hj
        have hjl : j < n * size := by rw [← hown.1]; exact (List.getElem?_eq_some_iff.1 hj).1
        rw [← htk, List.getElem?_take, if_pos hjl] at hj
        rw [add_plain]
        simp only [Nat.zero_add]
        rw [cell_at hg]
        rwa [Array.getElem?_toList] at hj
      obtain ⟨v', w', r, r1, r2⟩ := run_append_arg_grows (P := P) w t ty e i z size bytes ht hi hz hsize hby hzs hsz ⟨g, 0, none⟩ n cap xs hown.1 hcell a m c news hl hnews hr h63 hbytes
      exact ⟨v', w', r, r1.mono hbase, ⟨r2.1, r2.2, r2.3, r2.4, fun k h _ => r2.5 k h (by simp)⟩, fun k hk => .inr (r1.lt k hk).1⟩
    · obtain ⟨w', r, r1, r2⟩ := run_append_fits (P := P) w base t ty e i size ht hi hsize g n cap xs hown a m c news hl hnews h1 (by omega)
      exact ⟨_, w', r, r1, r2, fun k hk => .inl hk⟩

/-- The last four cells of an owned row are written. -/
theorem put_row {A : World} {B g cap k : Nat} {e : TypeId} {old : List Value} {z0 z1 z2 z3 : Value} (v0 v1 v2 v3 : Value) (h : A.ownsRow B e 4 (.slice (some ⟨g, 0, none⟩) (k + 1) cap) (k + 1) (old ++ [z0, z1, z2, z3])) {A' : World}
    (e' : (((A.setCell ⟨g, k * 4, none⟩ v0).setCell ⟨g, k * 4 + 1, none⟩ v1).setCell ⟨g, k * 4 + 2, none⟩ v2).setCell ⟨g, k * 4 + 3, none⟩ v3 = A') :
    A'.ownsRow B e 4 (.slice (some ⟨g, 0, none⟩) (k + 1) cap) (k + 1) (old ++ [v0, v1, v2, v3]) ∧ A.grownBy A' (some g) ∧ A'.heap.size = A.heap.size := by
  have hlen := h.1
  simp at hlen
  have hold : old.length = k * 4 := by omega
  rcases h.2 with ⟨h, _⟩ | ⟨g', cap', cur, h, hbg, hg, hnc, hcm, hcs, htake⟩
  · simp at h
  simp only [Value.slice.injEq, Option.some.injEq, Addr.mk.injEq, and_true, true_and] at h
  obtain ⟨rfl, rfl⟩ := h
  have hsz : A'.heap.size = A.heap.size := by rw [← e']; simp
  have hoth : ∀ b, b ≠ g → A'.heap[b]? = A.heap[b]? := by
    intro x hx
    rw [← e', Below.heap_setCell _ _ _ _ (fun e => hx e), Below.heap_setCell _ _ _ _ (fun e => hx e), Below.heap_setCell _ _ _ _ (fun e => hx e), Below.heap_setCell _ _ _ _ (fun e => hx e)]
  refine ⟨⟨by simp; omega, .inr ⟨g, cap, _, rfl, hbg, by rw [← e']; exact heap_setCell_same _ _ _ _ _ _ (heap_setCell_same _ _ _ _ _ _ (heap_setCell_same _ _ _ _ _ _ (heap_setCell_same _ _ _ _ _ _ hg))), hnc, hcm, by simpa using hcs, ?_⟩⟩,
    ⟨by rw [← e']; rfl, by rw [← e']; rfl, by rw [← e']; rfl, by omega, fun b _ hb => hoth b (fun e => hb (by rw [e]))⟩, hsz⟩
  obtain ⟨cl⟩ := cur
  simp only [List.setIfInBounds_toArray] at htake ⊢
  have hcl : cl = old ++ [z0, z1, z2, z3] ++ cl.drop ((k + 1) * 4) := by rw [← htake]; exact (List.take_append_drop _ _).symm
  generalize cl.drop ((k + 1) * 4) = rest at hcl
  subst hcl
  simp [hold, List.take_append]
  rw [List.take_of_length_le (by omega), show (k + 1) * 4 - k * 4 = 4 by omega]
  rfl

/-- Behind a round: what it has written. -/
structure Wrote4 (w' A' : World) (Bl B g cap k : Nat) (xs : List Value) : Prop where
  box : Boxed A' Bl 23 (.slice (some ⟨g, 0, none⟩) (k + 1) cap)
  row : A'.ownsRow B 25 4 (.slice (some ⟨g, 0, none⟩) (k + 1) cap) (k + 1) xs
  same : ∀ b, b ≠ Bl → b ≠ g → A'.heap[b]? = w'.heap[b]?
  size : A'.heap.size = w'.heap.size
  os : A'.os = w'.os
  tape : A'.tape = w'.tape
  output : A'.output = w'.output

theorem wrote_one {w' A' : World} {Bl B g cap k : Nat} {u z0 z1 z2 z3 : Value} {old : List Value} (v0 v1 v2 v3 : Value) (hu : Boxed w' Bl 23 u) (hne : g ≠ Bl)
    (r1 : w'.ownsRow B 25 4 (.slice (some ⟨g, 0, none⟩) (k + 1) cap) (k + 1) (old ++ [z0, z1, z2, z3]))
    (hA : ((((w'.setCell ⟨g, k * 4, none⟩ v0).setCell ⟨g, k * 4 + 1, none⟩ v1).setCell ⟨g, k * 4 + 2, none⟩ v2).setCell ⟨g, k * 4 + 3, none⟩ v3).setCell ⟨Bl, 0, none⟩ (.slice (some ⟨g, 0, none⟩) (k + 1) cap) = A') : Wrote4 w' A' Bl B g cap k (old ++ [v0, v1, v2, v3]) := by
  obtain ⟨X, hX⟩ : ∃ X, (((w'.setCell ⟨g, k * 4, none⟩ v0).setCell ⟨g, k * 4 + 1, none⟩ v1).setCell ⟨g, k * 4 + 2, none⟩ v2).setCell ⟨g, k * 4 + 3, none⟩ v3 = X := ⟨_, rfl⟩
  obtain ⟨r2, hgr, hsz⟩ := put_row v0 v1 v2 v3 r1 hX
  rw [hX] at hA
  have hb : Boxed X Bl 23 u := hu.kept hgr (fun e => hne (by cases e; rfl))
  subst hA
  have hg2 := grownBy_setCell' X Bl (.slice (some ⟨g, 0, none⟩) (k + 1) cap)
  exact ⟨hb.set _, r2.kept hg2 (.inr (fun e => hne (by simpa [Value.ownBlock] using e))), fun b h1 h2 => by
      rw [Below.heap_setCell _ _ _ _ (fun e => h1 e)]
      by_cases hl : b < w'.heap.size
      · exact hgr.5 b hl (fun e => h2 (by cases e; rfl))
      · rw [Array.getElem?_eq_none (by omega), Array.getElem?_eq_none (by omega)],
    by simpa using hsz, hgr.1, hgr.2, hgr.3⟩

theorem wrote_two {w' A' : World} {Bl B g cap k : Nat} {u z0 z1 z2 z3 : Value} {old : List Value} (v0 v1 v2 v3 : Value) (hu : Boxed w' Bl 23 u) (hne : g ≠ Bl)
    (r1 : w'.ownsRow B 25 4 (.slice (some ⟨g, 0, none⟩) (k + 1) cap) (k + 1) (old ++ [z0, z1, z2, z3]))
    (hA : ((((w'.setCell ⟨Bl, 0, none⟩ (.slice (some ⟨g, 0, none⟩) (k + 1) cap)).setCell ⟨g, k * 4, none⟩ v0).setCell ⟨g, k * 4 + 1, none⟩ v1).setCell ⟨g, k * 4 + 2, none⟩ v2).setCell ⟨g, k * 4 + 3, none⟩ v3 = A') : Wrote4 w' A' Bl B g cap k (old ++ [v0, v1, v2, v3]) := by
  have hg2 := grownBy_setCell' w' Bl (.slice (some ⟨g, 0, none⟩) (k + 1) cap)
  have r2 := r1.kept hg2 (.inr (fun e => hne (by simpa [Value.ownBlock] using e)))
  obtain ⟨r3, hgr, hsz⟩ := put_row v0 v1 v2 v3 r2 hA
  have hs1 : (w'.setCell ⟨Bl, 0, none⟩ (.slice (some ⟨g, 0, none⟩) (k + 1) cap)).heap.size = w'.heap.size := by simp
  exact ⟨(hu.set _).kept hgr (fun e => hne (by cases e; rfl)), r3, fun b h1 h2 => by
      by_cases hl : b < w'.heap.size
      · rw [hgr.5 b (by omega) (fun e => h2 (by cases e; rfl)), Below.heap_setCell _ _ _ _ (fun e => h1 e)]
      · rw [Array.getElem?_eq_none (by omega), Array.getElem?_eq_none (by omega)],
    by omega, hgr.1, hgr.2, hgr.3⟩

/-- Behind a round: the list holds one part more. -/
theorem round_end {w W W2 w' A' : World} {Bl B g cap : Nat} {u : Value} {pre : List Hd} {x : Hd} (hBl : w.heap.size ≤ Bl) (hB : w.heap.size ≤ B) (hbW : Below w.heap.size w W) (hown : W.ownsRow B 25 4 u pre.length (hdCells pre))
    (hbe2 : Below W.heap.size W W2) (hgr : W2.grownBy w' u.ownBlock) (hwhere : u.ownBlock = some g ∨ W2.heap.size ≤ g)
    (h : Wrote4 w' A' Bl B g cap pre.length (hdCells pre ++ [.int .i64 x.kd, .int .i64 x.sy, .int .i64 x.n, .slice x.a x.len x.cap])) :
    (∃ r', Lst Bl B r' (pre ++ [x]) A') ∧ Below w.heap.size w A' ∧ W.heap.size ≤ A'.heap.size ∧ ∀ b, b ≠ Bl → b < W.heap.size → u.ownBlock ≠ some b → A'.heap[b]? = W.heap[b]? := by
  have hrow := hown.lt
  have hs2 := hbe2.size
  have hs3 := hgr.4
  have hs4 := h.size
  have hold : ∀ b, b ≠ Bl → b < W.heap.size → u.ownBlock ≠ some b → A'.heap[b]? = W.heap[b]? := by
    intro b h1 h2 h3
    have hg : b ≠ g := by
      rintro rfl
      rcases hwhere with e | e
      · exact h3 e
      · omega
    rw [h.same b h1 hg, hgr.5 b (by omega) (fun e => h3 e.symm)]
    exact hbe2.block b h2
  refine ⟨⟨_, _, h.box, ?_, rfl⟩, ⟨?_, ?_, ?_, ?_, fun b hb => ?_⟩, by omega, hold⟩
  · rw [hdCells_snoc, List.length_append]; exact h.row
  · rw [h.os, hgr.1, hbe2.os, hbW.os]
  · rw [h.tape, hgr.2, hbe2.tape, hbW.tape]
  · rw [h.output, hgr.3, hbe2.output, hbW.output]
  · have := hbW.size; omega
  · have hsz := hbW.size
    rw [hold b (by omega) (by omega) (fun e => by have := (hrow b e).1; omega)]
    exact hbW.block b hb
end Go.Proofs.YtpokhhplgljmiaaDoor
