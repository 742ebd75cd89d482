/- What the marks of one that is looked for leave as it was. -/
import Derived.Test.YtibolmlnbojokaaDoorExBox
import Derived.Test.YtibolmlnbojokaaDoorEx8
import Derived.Test.YtibolmlnbojokaaDoorInts
import Derived.Test.YtibolmlnbojokaaDoorExS2
namespace Go.Proofs.YtibolmlnbojokaaDoor
open Go.ChangeShapes Go.WideShapes Go.ChangeAt Go.RowKit
set_option linter.unusedVariables false

theorem Box4.touch {w w' : World} {A : Nat} {v0 v1 v2 v3 : Value} {S : List Nat} (h : Box4 w A v0 v1 v2 v3) (ht : Touch S w w') (hn : A ∉ S) : Box4 w' A v0 v1 v2 v3 := by
  have hl := h.lt
  obtain ⟨t, f, h⟩ := h
  exact ⟨t, f, (ht.block A hl hn).trans h⟩
theorem IntOwn.touch {w w' : World} {B : Nat} {a : Option Addr} {l : List Int} {S : List Nat} (h : IntOwn w B a l) (ht : Touch S w w') (hn : ∀ x, a = some x → x.block ∉ S) : IntOwn w' B a l := by
  refine ⟨h.len, h.ge, fun hl => ?_⟩
  obtain ⟨b, rfl, hB, hlt, hr⟩ := h.row hl
  exact ⟨b, rfl, hB, Nat.lt_of_lt_of_le hlt ht.size, hr.of_block (ht.block b hlt (hn _ rfl))⟩
theorem Box4.lower {w w' : World} {A B : Nat} {v0 v1 v2 v3 : Value} (h : Box4 w A v0 v1 v2 v3) (hA : A < B) (hb : Below B w w') : Box4 w' A v0 v1 v2 v3 := by
  obtain ⟨t, f, h⟩ := h
  exact ⟨t, f, (hb.block A hA).trans h⟩
theorem touch_of_below {S : List Nat} {w w' : World} (hb : Below w.heap.size w w') : Touch S w w' := ⟨hb.os, hb.tape, hb.output, hb.size, fun x hx _ => hb.block x hx⟩

/-- What both ExSyms hand back. -/
def SymsPost (w : World) (l : List Int) (e : Ending) (w' : World) : Prop := ∃ a cap, e = .returned (.slice a l.length cap) ∧ IntOwn w' w.heap.size a l ∧ (∀ x, a = some x → x.block < w'.heap.size) ∧ Below w.heap.size w w'
theorem symsPost_of {w w' : World} {l : List Int} {v : Value} {t : TypeId} (h : w'.ownsRow w.heap.size t 1 v l.length (intCells l)) (hb : Below w.heap.size w w') : SymsPost w l (.returned v) w' := by
  obtain ⟨a, cap, rfl, hO⟩ := intOwn_of h
  refine ⟨a, cap, rfl, hO, fun x hx => ?_, hb⟩
  subst hx
  exact (h.lt x.block rfl).2
theorem symsX_len (kd sy n : Int) (F : Fo) : (symsX kd sy n F).length ≤ 5 := by
  unfold symsX
  split
  · exact symsTo_len kd sy F 5
  · simp
theorem specSyms_own (kd sy n : Int) (a : Option Addr) (cap : Nat) (F : Fo) (w : World) (h : Slc w a F) (hs : F.size ≤ 1048576) :
    Calls Tryd.prog 13 #[.agg #[.int .i64 kd, .int .i64 sy, .int .i64 n, .slice a F.len cap]] w (SymsPost w (symsX kd sy n F)) :=
  (specExSyms_any kd sy n a cap F w h hs).mono fun e w' ⟨v, he, ho, hb⟩ => he ▸ symsPost_of ho hb
theorem implSyms_own (kd sy n : Int) (a : Option Addr) (cap : Nat) (F : Fo) (w : World) (t : TypeId) (v : Value) (hE : ErrAt w t v) (h : Slc w a F) :
    Calls Tryd.prog 14 #[.agg #[.int .i64 kd, .int .i64 sy, .int .i64 n, .slice a F.len cap]] w (SymsPost w (symsX kd sy n F)) :=
  (implExSyms_any kd sy n a cap F w t v hE h).mono fun e w' ⟨v, he, ho, hb⟩ => he ▸ symsPost_of ho hb
end Go.Proofs.YtibolmlnbojokaaDoor
