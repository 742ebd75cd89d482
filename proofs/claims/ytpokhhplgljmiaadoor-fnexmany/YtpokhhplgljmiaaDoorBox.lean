/- Boxes: a value of any cells in a block; what keeps them; a row written cell by cell; structs of many fields opened. -/
import Derived.Test.YtpokhhplgljmiaaDoorEvsOwn
import Derived.Test.YtpokhhplgljmiaaDoorAfter
import Derived.Lib.SmallJoins
namespace Go.Proofs.YtpokhhplgljmiaaDoor
open Go.ChangeShapes Go.WideShapes Go.ChangeAt Go.RowKit Go.Deep
set_option linter.unusedVariables false
set_option maxRecDepth 4000

theorem xCell {w : World} {b : Nat} {c : Array Value} {t : TypeId} {f : Nat × Nat} (h : w.heap[b]? = some (.cells c t f)) (o : Nat) : w.cell? ⟨b, o, none⟩ = c[o]? := by simp [World.cell?, h]
theorem xBelow_new (w : World) (o : Obj) : Below w.heap.size w (w.alloc o) := (Below.refl _ _).alloc (Nat.le_refl _) _
/-- Block A is the box of one value of these cells. -/
def Bx (w : World) (A : Nat) (cs : Array Value) : Prop := ∃ t f, w.heap[A]? = some (.cells cs t f)
theorem Bx.cell {w : World} {A : Nat} {cs : Array Value} (h : Bx w A cs) (i : Nat) {v : Value} (hv : cs[i]? = some v) : w.cell? ⟨A, i, none⟩ = some v := by
  obtain ⟨t, f, h⟩ := h
  exact (xCell h i).trans hv
theorem Bx.lt {w : World} {A : Nat} {cs : Array Value} (h : Bx w A cs) : A < w.heap.size := by
  obtain ⟨t, f, h⟩ := h
  exact (Array.getElem?_eq_some_iff.1 h).1
theorem Bx.below {w w' : World} {A : Nat} {cs : Array Value} (h : Bx w A cs) (hb : Below w.heap.size w w') : Bx w' A cs := by
  have hl := h.lt
  obtain ⟨t, f, h⟩ := h
  exact ⟨t, f, (hb.block A hl).trans h⟩
theorem bx_new (w : World) (cs : Array Value) (t : TypeId) : Bx (w.alloc (.cells cs t)) w.heap.size cs := ⟨t, (0, 0), heap_alloc_new w _⟩
/-- Nothing that lies from B on has turned. -/
def Keeps (B : Nat) (w w' : World) : Prop := w.heap.size ≤ w'.heap.size ∧ ∀ x, B ≤ x → x < w.heap.size → w'.heap[x]? = w.heap[x]?
theorem Keeps.refl (B : Nat) (w : World) : Keeps B w w := ⟨Nat.le_refl _, fun _ _ _ => rfl⟩
theorem Keeps.trans {B : Nat} {w w' w'' : World} (h : Keeps B w w') (k : Keeps B w' w'') : Keeps B w w'' :=
  ⟨Nat.le_trans h.1 k.1, fun x hx hl => (k.2 x hx (Nat.lt_of_lt_of_le hl h.1)).trans (h.2 x hx hl)⟩
theorem Keeps.of_below {B : Nat} {w w' : World} (h : Below w.heap.size w w') : Keeps B w w' := ⟨h.size, fun x _ hl => h.block x hl⟩
theorem keeps_set {B b : Nat} (w : World) (h : b < B) (o : Nat) (v : Value) : Keeps B w (w.setCell ⟨b, o, none⟩ v) :=
  ⟨by simp, fun x hx _ => Below.heap_setCell _ _ _ _ (fun e => by have : x = b := e; omega)⟩

/-- A box of the call's own. -/
def OB (w : World) (B : Nat) (cs : Array Value) : Prop := ∃ t, w.heap[B]? = some (.cells cs t (0, 0))
theorem OB.cell {w : World} {B : Nat} {cs : Array Value} (h : OB w B cs) (i : Nat) {v : Value} (hv : cs[i]? = some v) : w.cell? ⟨B, i, none⟩ = some v := by
  obtain ⟨t, h⟩ := h
  exact (xCell h i).trans hv
theorem OB.at {w : World} {B : Nat} {cs : Array Value} (h : OB w B cs) (i : Nat) : w.cell? ⟨B, i, none⟩ = cs[i]? := by
  obtain ⟨t, h⟩ := h
  exact xCell h i
theorem OB.free {w : World} {B : Nat} {cs : Array Value} (h : OB w B cs) : ∀ o, w.frozen? ⟨B, o, none⟩ = false := by
  obtain ⟨t, h⟩ := h
  intro o
  simp [World.frozen?, h]
theorem OB.set {w : World} {B : Nat} {cs : Array Value} (h : OB w B cs) (i : Nat) (v : Value) : OB (w.setCell ⟨B, i, none⟩ v) B (cs.setIfInBounds i v) := by
  obtain ⟨t, h⟩ := h
  exact ⟨t, heap_setCell_same _ _ _ _ _ _ h⟩
theorem OB.lt {w : World} {A : Nat} {cs : Array Value} (h : OB w A cs) : A < w.heap.size := by
  obtain ⟨t, h⟩ := h
  exact (Array.getElem?_eq_some_iff.1 h).1
theorem OB.below {w w' : World} {A : Nat} {cs : Array Value} (h : OB w A cs) (hb : Below w.heap.size w w') : OB w' A cs := by
  have hl := h.lt
  obtain ⟨t, h⟩ := h
  exact ⟨t, (hb.block A hl).trans h⟩
theorem ob_new (w : World) (cs : Array Value) (t : TypeId) : OB (w.alloc (.cells cs t)) w.heap.size cs := ⟨t, heap_alloc_new w _⟩
theorem OB.other {w : World} {A : Nat} {cs : Array Value} (h : OB w A cs) {b : Nat} (hb : b ≠ A) (o : Nat) (v : Value) : OB (w.setCell ⟨b, o, none⟩ v) A cs := by
  obtain ⟨t, h⟩ := h
  exact ⟨t, (Below.heap_setCell _ _ _ _ (fun e => hb (Eq.symm e))).trans h⟩
theorem Bx.other {w : World} {A : Nat} {cs : Array Value} (h : Bx w A cs) {b : Nat} (hb : b ≠ A) (o : Nat) (v : Value) : Bx (w.setCell ⟨b, o, none⟩ v) A cs := by
  obtain ⟨t, f, h⟩ := h
  exact ⟨t, f, (Below.heap_setCell _ _ _ _ (fun e => hb (Eq.symm e))).trans h⟩

/-- Of a row the cells from j on were written. -/
structure St (w0 : World) (b j : Nat) (c : Array Value) (t : TypeId) (vs : List Value) (w : World) : Prop where
  blk : ∃ c', w.heap[b]? = some (.cells c' t (0, 0)) ∧ c'.size = c.size ∧ (∀ i v, vs[i]? = some v → c'[j + i]? = some v) ∧ (∀ o, o < j ∨ j + vs.length ≤ o → c'[o]? = c[o]?)
  oth : ∀ x, x ≠ b → w.heap[x]? = w0.heap[x]?
  sz : w.heap.size = w0.heap.size
theorem st_nil {w : World} {b : Nat} (j : Nat) {c : Array Value} {t : TypeId} (h : w.heap[b]? = some (.cells c t (0, 0))) : St w b j c t [] w :=
  ⟨⟨c, h, rfl, by simp, fun _ _ => rfl⟩, fun _ _ => rfl, rfl⟩
theorem St.snoc {w0 w : World} {b j : Nat} {c : Array Value} {t : TypeId} {vs : List Value} (h : St w0 b j c t vs w) (n : Nat) (hn : vs.length = n) (hj : j + n < c.size) (v : Value) : St w0 b j c t (vs ++ [v]) (w.setCell ⟨b, j + n, none⟩ v) := by
  obtain ⟨⟨c', h1, h2, h3, h4⟩, h5, h6⟩ := h
  subst hn
  refine ⟨⟨c'.setIfInBounds (j + vs.length) v, heap_setCell_same _ _ _ _ _ _ h1, by simp [h2], fun i u hi => ?_, fun o ho => ?_⟩, fun x hx => ?_, by simp [h6]⟩
  · simp only [Array.getElem?_setIfInBounds]
    by_cases hil : i < vs.length
    · rw [List.getElem?_append_left hil] at hi
      rw [if_neg (by omega)]
      exact h3 i u hi
    · have hiv : i = vs.length := by
        have := (List.getElem?_eq_some_iff.1 hi).1
        simp at this
        omega
      subst hiv
      rw [if_pos rfl, if_pos (by omega)]
      simpa using hi
  · simp only [List.length_append, List.length_cons, List.length_nil] at ho
    simp only [Array.getElem?_setIfInBounds]
    rw [if_neg (by omega)]
    exact h4 o (by omega)
  · exact (Below.heap_setCell _ _ _ _ (fun e => hx e)).trans (h5 x hx)
theorem St.keeps {w0 w : World} {b j B : Nat} {c : Array Value} {t : TypeId} {vs : List Value} (h : St w0 b j c t vs w) (hb : b < B) : Keeps B w0 w :=
  ⟨by rw [h.sz]; exact Nat.le_refl _, fun x hx _ => h.oth x (by omega)⟩


section
variable {H : Type} {enc : TypeId × Value → H} {W : World}
theorem trod_struct8 {t : TypeId} {f0 f1 f2 f3 f4 f5 f6 f7 : Field} {fuel : Nat} {cs : List Value} {x : DataW H × List MemPlace} (ht : Tryd.prog.underlying t = some (.struct #[f0, f1, f2, f3, f4, f5, f6, f7])) (h : DataW.trod enc Tryd.prog W 0 (fun _ => true) true fuel t cs = some x) :
    ∃ n, ∀ f, f ∈ [f0, f1, f2, f3, f4, f5, f6, f7] → ∃ y, DataW.trod enc Tryd.prog W 0 (fun _ => true) true n f.type ((cs.drop f.offset).take (Tryd.prog.cellsOf f.type)) = some y := by
  obtain ⟨xs, n, _, rfl, hl, hlen, hf⟩ := DataW.trod_struct ht h
  match xs, hlen with
  | [y0, y1, y2, y3, y4, y5, y6, y7], _ =>
    refine ⟨n, fun f hm => ?_⟩
    simp at hm
    rcases hm with rfl | rfl | rfl | rfl | rfl | rfl | rfl | rfl
    · exact ⟨y0, by simpa using hf 0 _ rfl⟩
    · exact ⟨y1, by simpa using hf 1 _ rfl⟩
    · exact ⟨y2, by simpa using hf 2 _ rfl⟩
    · exact ⟨y3, by simpa using hf 3 _ rfl⟩
    · exact ⟨y4, by simpa using hf 4 _ rfl⟩
    · exact ⟨y5, by simpa using hf 5 _ rfl⟩
    · exact ⟨y6, by simpa using hf 6 _ rfl⟩
    · exact ⟨y7, by simpa using hf 7 _ rfl⟩
theorem trod_struct5 {t : TypeId} {f0 f1 f2 f3 f4 : Field} {fuel : Nat} {cs : List Value} {x : DataW H × List MemPlace} (ht : Tryd.prog.underlying t = some (.struct #[f0, f1, f2, f3, f4])) (h : DataW.trod enc Tryd.prog W 0 (fun _ => true) true fuel t cs = some x) :
    ∃ n, ∀ f, f ∈ [f0, f1, f2, f3, f4] → ∃ y, DataW.trod enc Tryd.prog W 0 (fun _ => true) true n f.type ((cs.drop f.offset).take (Tryd.prog.cellsOf f.type)) = some y := by
  obtain ⟨xs, n, _, rfl, hl, hlen, hf⟩ := DataW.trod_struct ht h
  match xs, hlen with
  | [y0, y1, y2, y3, y4], _ =>
    refine ⟨n, fun f hm => ?_⟩
    simp at hm
    rcases hm with rfl | rfl | rfl | rfl | rfl
    · exact ⟨y0, by simpa using hf 0 _ rfl⟩
    · exact ⟨y1, by simpa using hf 1 _ rfl⟩
    · exact ⟨y2, by simpa using hf 2 _ rfl⟩
    · exact ⟨y3, by simpa using hf 3 _ rfl⟩
    · exact ⟨y4, by simpa using hf 4 _ rfl⟩

end
end Go.Proofs.YtpokhhplgljmiaaDoor
