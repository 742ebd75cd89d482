/- A place in a box that can be written. -/
import Derived.Test.YtjaneedmhekheaaDoorDraw7
namespace Go.Proofs.YtjaneedmhekheaaDoor
open Go.ChangeShapes Go.WideShapes Go.ChangeAt Go.RowKit
set_option linter.unusedVariables false
set_option maxRecDepth 4000
/-- A place in its box. -/
structure In (w : World) (B : Nat) (o : Occ) (a : Option Addr) (c : Nat) : Prop where
  raw : w.heap[B]? = some (.cells #[.int .i64 o.fr, .int .i64 o.tl, .slice a o.ids.length c] 25 (0, 0))
  ids : Ints w a o.ids
theorem In.lt {w : World} {B c : Nat} {o : Occ} {a : Option Addr} (h : In w B o a c) : B < w.heap.size := (Array.getElem?_eq_some_iff.1 h.raw).1
theorem In.cells {w : World} {B c : Nat} {o : Occ} {a : Option Addr} (h : In w B o a c) : w.cell? ⟨B, 0, none⟩ = some (.int .i64 o.fr) ∧ w.cell? ⟨B, 1, none⟩ = some (.int .i64 o.tl) ∧ w.cell? ⟨B, 2, none⟩ = some (.slice a o.ids.length c) := ⟨oCell h.raw 0, oCell h.raw 1, oCell h.raw 2⟩
theorem In.soft {w : World} {B c : Nat} {o : Occ} {a : Option Addr} (h : In w B o a c) : ∀ i, w.frozen? ⟨B, i, none⟩ = false := fun i => by simp [World.frozen?, h.raw]
theorem In.below {w w' : World} {B c : Nat} {o : Occ} {a : Option Addr} (h : In w B o a c) (hb : Below w.heap.size w w') : In w' B o a c := ⟨(hb.block B h.lt).trans h.raw, h.ids.below hb⟩
theorem ints_only {w w' : World} {R : Nat} {l : List Int} {a : Option Addr} (h : Ints w a l) (hg : w.grownBy w' (some R)) (ha : ∀ q, a = some q → 0 < l.length → R ≠ q.block) : Ints w' a l :=
  ⟨h.len, fun hl => by
    obtain ⟨b, off, e, hlt, hc⟩ := h.cells hl
    refine ⟨b, off, e, Nat.lt_of_lt_of_le hlt hg.size, fun i hi => ?_⟩
    rw [World.cell?_of_block (w := w) (hg.block b hlt (fun e' => ha _ e hl (Option.some.inj e').symm))]
    exact hc i hi⟩
theorem In.only {w w' : World} {B c R : Nat} {o : Occ} {a : Option Addr} (h : In w B o a c) (hg : w.grownBy w' (some R)) (hB : R ≠ B) (ha : ∀ q, a = some q → 0 < o.ids.length → R ≠ q.block) : In w' B o a c :=
  ⟨(hg.block B h.lt (fun e => hB (Option.some.inj e).symm)).trans h.raw, ints_only h.ids hg ha⟩
/-- A place is written over another one. -/
theorem In.put {w : World} {B c c' : Nat} {o o' : Occ} {a a' : Option Addr} (h : In w B o a c) (hi : Ints w a' o'.ids) (ha : ∀ q, a' = some q → 0 < o'.ids.length → B ≠ q.block) :
    In (((w.setCell ⟨B, 0, none⟩ (.int .i64 o'.fr)).setCell ⟨B, 1, none⟩ (.int .i64 o'.tl)).setCell ⟨B, 2, none⟩ (.slice a' o'.ids.length c')) B o' a' c' :=
  ⟨by simp [World.setCell, Array.getElem?_modify, h.raw], ints_only hi (grownBy_setCell (grownBy_setCell (grownBy_setCell (grownBy_refl _ _) _) _) _) ha⟩
theorem put_grown (w : World) (B : Nat) (u0 u1 u2 : Value) : w.grownBy (((w.setCell ⟨B, 0, none⟩ u0).setCell ⟨B, 1, none⟩ u1).setCell ⟨B, 2, none⟩ u2) (some B) := grownBy_setCell (grownBy_setCell (grownBy_setCell (grownBy_refl _ _) _) _) _
theorem in_two (w1 : World) (oa ob : Occ) (aa ab : Option Addr) (ca cb : Nat) (ha : Ints w1 aa oa.ids) (hb : Ints w1 ab ob.ids) :
    In ((w1.alloc (.cells #[.int .i64 oa.fr, .int .i64 oa.tl, .slice aa oa.ids.length ca] 25)).alloc (.cells #[.int .i64 ob.fr, .int .i64 ob.tl, .slice ab ob.ids.length cb] 25)) w1.heap.size oa aa ca ∧
    In ((w1.alloc (.cells #[.int .i64 oa.fr, .int .i64 oa.tl, .slice aa oa.ids.length ca] 25)).alloc (.cells #[.int .i64 ob.fr, .int .i64 ob.tl, .slice ab ob.ids.length cb] 25)) (w1.heap.size + 1) ob ab cb ∧
    Below w1.heap.size w1 ((w1.alloc (.cells #[.int .i64 oa.fr, .int .i64 oa.tl, .slice aa oa.ids.length ca] 25)).alloc (.cells #[.int .i64 ob.fr, .int .i64 ob.tl, .slice ab ob.ids.length cb] 25)) := by
  have hbb := below_two w1 (.cells #[.int .i64 oa.fr, .int .i64 oa.tl, .slice aa oa.ids.length ca] 25) (.cells #[.int .i64 ob.fr, .int .i64 ob.tl, .slice ab ob.ids.length cb] 25)
  have h2 := heap_alloc_new (w1.alloc (.cells #[.int .i64 oa.fr, .int .i64 oa.tl, .slice aa oa.ids.length ca] 25)) (.cells #[.int .i64 ob.fr, .int .i64 ob.tl, .slice ab ob.ids.length cb] 25)
  rw [World.size_alloc] at h2
  exact ⟨⟨(Below.heap_alloc _ _ _ (by simp)).trans (heap_alloc_new w1 _), ha.below hbb⟩, ⟨h2, hb.below hbb⟩, hbb⟩
/-- A list of one that was just made. -/
theorem occs_new (w : World) (o : Occ) (a : Option Addr) (c : Nat) (hi : Ints w a o.ids) : Occs (w.alloc (.cells #[.int .i64 o.fr, .int .i64 o.tl, .slice a o.ids.length c] 25)) (some ⟨w.heap.size, 0, none⟩) [o] := by
  have h := heap_alloc_new w (.cells #[.int .i64 o.fr, .int .i64 o.tl, .slice a o.ids.length c] 25)
  refine ⟨by simp [maxLen], fun _ => ⟨_, _, rfl, by simp, fun i hi' => ?_⟩⟩
  obtain rfl : i = 0 := by simp at hi'; omega
  exact ⟨oCell h 0, oCell h 1, a, c, oCell h 2, hi.below (oBelow_new _ _)⟩
/-- One of a list, as a list. -/
theorem Occs.sub {w : World} {b off : Nat} {l : List Occ} (h : Occs w (some ⟨b, off, none⟩) l) {k : Nat} (hk : k < l.length) : Occs w (some ⟨b, off + k * 3, none⟩) [l[k]] := by
  obtain ⟨b', off', e, hlt, hc⟩ := h.cells (by omega)
  cases e
  refine ⟨by simp [maxLen], fun _ => ⟨_, _, rfl, hlt, fun i hi' => ?_⟩⟩
  obtain rfl : i = 0 := by simp at hi'; omega
  simpa using hc k hk
end Go.Proofs.YtjaneedmhekheaaDoor
