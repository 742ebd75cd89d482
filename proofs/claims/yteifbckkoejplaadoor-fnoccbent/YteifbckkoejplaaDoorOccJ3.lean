/- Two places in one: both OccJoin. -/
import Derived.Test.YteifbckkoejplaaDoorOccJ2
namespace Go.Proofs.YteifbckkoejplaaDoor
open Go.ChangeShapes Go.WideShapes Go.ChangeAt Go.RowKit
set_option linter.unusedVariables false
theorem occOkB_len {f t : Int} {l : List Int} (h : occOkB f t l = true) : l.length ≤ 24 := by
  simp [occOkB] at h
  have := idsFrom_length l (-1) h.2 (by omega) (by omega)
  omega
/-- Both in one; nothing, if one is not ok. -/
def joinO (x y : Occ) : Occ := if occOkB x.fr x.tl x.ids && occOkB y.fr y.tl y.ids then ⟨min x.fr y.fr, max x.tl y.tl, unionF x.ids y.ids⟩ else ⟨0, 0, []⟩
/-- What is handed back: one whose numbers lie in a row of their own, from B on. -/
def OneBack (w : World) (o : Occ) (e : Ending) (w' : World) : Prop :=
  ∃ v, e = .returned (.agg #[.int .i64 o.fr, .int .i64 o.tl, v]) ∧ w'.ownsRow w.heap.size 3 1 v o.ids.length (intCells o.ids) ∧ Below w.heap.size w w'

theorem owns_slice {w : World} {B : Nat} {e : TypeId} {z : Nat} {v : Value} {n : Nat} {xs : List Value} (h : w.ownsRow B e z v n xs) : ∃ a cap, v = .slice a n cap := by
  rcases h.2 with ⟨rfl, hn⟩ | ⟨g, cap, cur, rfl, _⟩
  · exact ⟨none, 0, by rw [hn]⟩
  · exact ⟨_, cap, rfl⟩
theorem keep_set {w : World} {b c o p : Nat} {v : Value} (h : c ≠ b) : (w.setCell ⟨b, p, none⟩ v).cell? ⟨c, o, none⟩ = w.cell? ⟨c, o, none⟩ :=
  World.cell?_of_block (w := w) (Below.heap_setCell _ _ _ _ h)
theorem owns_blocks {w w' : World} {B : Nat} {e : TypeId} {z : Nat} {v : Value} {n : Nat} {xs : List Value} (h : w.ownsRow B e z v n xs) (hk : ∀ g, B ≤ g → w'.heap[g]? = w.heap[g]?) : w'.ownsRow B e z v n xs := by
  refine ⟨h.1, ?_⟩
  rcases h.2 with hn | ⟨g, cap, cur, hv, hb, hg, rest⟩
  · exact .inl hn
  · exact .inr ⟨g, cap, cur, hv, hb, (hk g hb).trans hg, rest⟩
theorem owns_low {w : World} {B B' : Nat} {e : TypeId} {z : Nat} {v : Value} {n : Nat} {xs : List Value} (h : w.ownsRow B e z v n xs) (hB : B' ≤ B) : w.ownsRow B' e z v n xs := by
  refine ⟨h.1, ?_⟩
  rcases h.2 with hn | ⟨g, cap, cur, hv, hb, rest⟩
  · exact .inl hn
  · exact .inr ⟨g, cap, cur, hv, Nat.le_trans hB hb, rest⟩
theorem set3_other (w : World) (R x : Nat) (v0 v1 v2 : Value) (h : x ≠ R) : (((w.setCell ⟨R, 0, none⟩ v0).setCell ⟨R, 1, none⟩ v1).setCell ⟨R, 2, none⟩ v2).heap[x]? = w.heap[x]? := by
  rw [Below.heap_setCell _ _ _ _ h, Below.heap_setCell _ _ _ _ h, Below.heap_setCell _ _ _ _ h]
theorem set3_below {w w3 : World} {B R : Nat} (h : Below B w w3) (hR : B ≤ R) (v0 v1 v2 : Value) : Below B w (((w3.setCell ⟨R, 0, none⟩ v0).setCell ⟨R, 1, none⟩ v1).setCell ⟨R, 2, none⟩ v2) :=
  ((h.setCell hR _).setCell hR _).setCell hR _
theorem setEnd_ok {l : List Int} (h : idsFrom (-1) l = true) : setEnd l = .returned (.tuple #[.int .u32 (bitsOf l : Nat), .bool (decide (0 < l.length))]) := by simp [setEnd, h]
/-- The boxes of two places and of the result. -/
structure Boxes (w w2 : World) (x y : Occ) (a : Option Addr) (cap : Nat) (a' : Option Addr) (cap' : Nat) : Prop where
  bel : Below w.heap.size w w2
  A : Box3 w2 w.heap.size (.int .i64 x.fr) (.int .i64 x.tl) (.slice a x.ids.length cap)
  X : Box3 w2 (w.heap.size + 1) (.int .i64 y.fr) (.int .i64 y.tl) (.slice a' y.ids.length cap')
  R : ∃ t, w2.heap[w.heap.size + 1 + 1]? = some (.cells #[.int .i64 0, .int .i64 0, .slice none 0 0] t (0, 0))
theorem Boxes.new (w : World) (x y : Occ) (a : Option Addr) (cap : Nat) (a' : Option Addr) (cap' : Nat) (T : TypeId) :
    Boxes w (((w.alloc (.cells #[.int .i64 x.fr, .int .i64 x.tl, .slice a x.ids.length cap] T)).alloc (.cells #[.int .i64 y.fr, .int .i64 y.tl, .slice a' y.ids.length cap'] T)).alloc (.cells #[.int .i64 0, .int .i64 0, .slice none 0 0] T)) x y a cap a' cap' := by
  have b0 := oBelow_new w (.cells #[.int .i64 x.fr, .int .i64 x.tl, .slice a x.ids.length cap] T)
  have b1 := oBelow_new (w.alloc (.cells #[.int .i64 x.fr, .int .i64 x.tl, .slice a x.ids.length cap] T)) (.cells #[.int .i64 y.fr, .int .i64 y.tl, .slice a' y.ids.length cap'] T)
  have b2 := oBelow_new ((w.alloc (.cells #[.int .i64 x.fr, .int .i64 x.tl, .slice a x.ids.length cap] T)).alloc (.cells #[.int .i64 y.fr, .int .i64 y.tl, .slice a' y.ids.length cap'] T)) (.cells #[.int .i64 0, .int .i64 0, .slice none 0 0] T)
  refine ⟨(b0.trans (b1.mono b0.size)).trans (b2.mono (b0.trans (b1.mono b0.size)).size), ((box3_new w _ _ _ T).below b1).below b2, ?_, ⟨T, oAlloc3_third w _ _ _⟩⟩
  have := (box3_new (w.alloc (.cells #[.int .i64 x.fr, .int .i64 x.tl, .slice a x.ids.length cap] T)) (.int .i64 y.fr) (.int .i64 y.tl) (.slice a' y.ids.length cap') T).below b2
  simpa only [World.size_alloc] using this
theorem Boxes.below {w w2 w3 : World} {x y : Occ} {a : Option Addr} {cap : Nat} {a' : Option Addr} {cap' : Nat} (h : Boxes w w2 x y a cap a' cap') (hb : Below w2.heap.size w2 w3) : Boxes w w3 x y a cap a' cap' := by
  refine ⟨h.bel.trans (hb.mono h.bel.size), h.A.below hb, h.X.below hb, ?_⟩
  obtain ⟨t, hr⟩ := h.R
  exact ⟨t, (hb.block _ (Array.getElem?_eq_some_iff.1 hr).1).trans hr⟩
theorem Boxes.drew {w w2 : World} {x y : Occ} {a : Option Addr} {cap : Nat} {a' : Option Addr} {cap' : Nat} (h : Boxes w w2 x y a cap a' cap') : Boxes w w2.drew x y a cap a' cap' := ⟨h.bel.drew, h.A, h.X, h.R⟩
theorem Boxes.res {w w2 : World} {x y : Occ} {a : Option Addr} {cap : Nat} {a' : Option Addr} {cap' : Nat} (h : Boxes w w2 x y a cap a' cap') :
    (w2.cell? ⟨w.heap.size + 1 + 1, 0, none⟩ = some (.int .i64 0) ∧ w2.cell? ⟨w.heap.size + 1 + 1, 1, none⟩ = some (.int .i64 0) ∧ w2.cell? ⟨w.heap.size + 1 + 1, 2, none⟩ = some (.slice none 0 0)) ∧
    (∀ o, w2.frozen? ⟨w.heap.size + 1 + 1, o, none⟩ = false) ∧ w.heap.size + 1 + 1 < w2.heap.size := by
  obtain ⟨t, hr⟩ := h.R
  exact ⟨⟨oCell hr 0, oCell hr 1, oCell hr 2⟩, fun o => by simp [World.frozen?, hr], (Array.getElem?_eq_some_iff.1 hr).1⟩

end Go.Proofs.YteifbckkoejplaaDoor
