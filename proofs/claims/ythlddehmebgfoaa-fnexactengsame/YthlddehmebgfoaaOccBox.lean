/- Places that came in, read as plain data. -/
/- A place in a box of its own. -/
import Derived.Test.YthlddehmebgfoaaOcc
import Derived.Test.YthlddehmebgfoaaEvsOpen
import Derived.Lib.SmallJoins
import Derived.Deep.RegionHeld
namespace Go.Proofs.Ythlddehmebgfoaa
open Go.ChangeShapes Go.WideShapes Go.ChangeAt Go.RowKit Go.Deep
set_option linter.unusedVariables false
set_option maxRecDepth 4000

/-- A number that an int holds. -/
def I64 (n : Int) : Prop := -9223372036854775808 ≤ n ∧ n ≤ 9223372036854775807
/-- Its numbers are those that an int holds. -/
structure Occ.Wf (o : Occ) : Prop where
  fr : I64 o.fr
  tl : I64 o.tl
  ids : ∀ x ∈ o.ids, I64 x

/-- From cell off on block b holds one. -/
def OneRd (w : World) (b off : Nat) (o : Occ) : Prop :=
  w.cell? ⟨b, off, none⟩ = some (.int .i64 o.fr) ∧ w.cell? ⟨b, off + 1, none⟩ = some (.int .i64 o.tl) ∧ ∃ a cap, w.cell? ⟨b, off + 2, none⟩ = some (.slice a o.ids.length cap) ∧ Ints w a o.ids

/-- The slice whose address is a holds the places l. -/
structure Occs (w : World) (a : Option Addr) (l : List Occ) : Prop where
  len : l.length ≤ maxLen
  cells : 0 < l.length → ∃ b off, a = some ⟨b, off, none⟩ ∧ b < w.heap.size ∧ ∀ i (h : i < l.length), OneRd w b (off + i * 3) l[i]

theorem OneRd.below {w w' : World} {b off : Nat} {o : Occ} (h : OneRd w b off o) (hlt : b < w.heap.size) (hb : Below w.heap.size w w') : OneRd w' b off o := by
  obtain ⟨h1, h2, a, cap, h3, h4⟩ := h
  exact ⟨by rw [hb.cell hlt]; exact h1, by rw [hb.cell hlt]; exact h2, a, cap, by rw [hb.cell hlt]; exact h3, h4.below hb⟩
theorem Occs.below {w w' : World} {a : Option Addr} {l : List Occ} (h : Occs w a l) (hb : Below w.heap.size w w') : Occs w' a l := by
  refine ⟨h.len, fun hl => ?_⟩
  obtain ⟨b, off, ha, hlt, hc⟩ := h.cells hl
  exact ⟨b, off, ha, Nat.lt_of_lt_of_le hlt hb.size, fun i hi => (hc i hi).below hlt hb⟩
theorem Occs.nil (w : World) (a : Option Addr) : Occs w a [] := ⟨by simp, by simp⟩

section
variable {H : Type} {enc : TypeId × Value → H} {W : World}

theorem open_ints_trod {fuel : Nat} {cs : List Value} {x : DataW H × List MemPlace} (h : DataW.trod enc Try.prog W 0 (fun _ => true) true fuel 25 cs = some x) :
    ∃ a cap, ∃ l : List Int, cs = [.slice a l.length cap] ∧ Ints W a l ∧ ∀ n ∈ l, I64 n := by
  rcases DataW.trod_slice Try.underlying25 h with ⟨rfl, _⟩ | ⟨a, len, cap, elems, rest, n, rfl, rfl, _, hb, hl, hm, hlen, hel, _, _⟩
  · exact ⟨none, 0, [], rfl, ⟨by simp, by simp⟩, by simp⟩
  · have k1 : Try.prog.cellsOf 3 = 1 := by kernel_rfl
    rw [k1] at hel
    by_cases h00 : len = 0
    · subst h00
      exact ⟨_, cap, [], rfl, ⟨by simp, by simp⟩, by simp⟩
    obtain ⟨b, off, spot⟩ := a
    have one : ∀ i, i < len → ∃ cs' y, W.cells? 0 (Addr.add ⟨b, off, spot⟩ (i * 1)) 1 = some cs' ∧ DataW.trod enc Try.prog W 0 (fun _ => true) true n 3 cs' = some y := by
      intro i hi
      have := hel i hi
      rw [List.getElem?_eq_getElem (by omega)] at this
      exact Option.bind_eq_some_iff.1 this |>.elim fun cs' hc => ⟨cs', _, hc.1, hc.2⟩
    have hspot : spot = none := by
      obtain ⟨cs', y, h1, h2⟩ := one 0 (by omega)
      obtain ⟨_, hlen, hcell⟩ := World.cells?_some h1
      have := hcell 0 (by omega)
      rw [List.getElem?_eq_getElem (by omega)] at this
      simpa [Addr.add] using World.cell?_spot this
    subst hspot
    obtain ⟨F, hF⟩ := choose_lt (α := Int) (n := len) (p := fun i e => W.cell? ⟨b, off + i, none⟩ = some (.int .i64 e) ∧ I64 e) (fun i hi => by
      obtain ⟨cs', y, h1, h2⟩ := one i hi
      rw [add_plain] at h1
      obtain ⟨_, hlen, hcell⟩ := World.cells?_some h1
      match cs', hlen with
      | [c0], _ =>
        obtain ⟨s, e0, _, ws⟩ := DataW.trod_int Try.underlying3 h2
        have g0 := hcell 0 (by omega)
        rw [add_plain] at g0
        simp at e0
        exact ⟨s, by simpa [e0] using g0, i64_of ws⟩)
    refine ⟨_, cap, (List.range len).map F, by simp, ⟨by simp; omega, fun _ => ⟨b, off, rfl, block_lt (hF 0 (by omega)).1, fun i hi => ?_⟩⟩, ?_⟩
    · simp only [List.length_map, List.length_range] at hi
      simpa using (hF i hi).1
    · intro e he
      simp only [List.mem_map, List.mem_range] at he
      obtain ⟨i, hi, rfl⟩ := he
      exact (hF i hi).2

/-- The three cells of one that came in. -/
theorem one_occ {n : Nat} {c0 c1 c2 : Value} {y : DataW H × List MemPlace} (h2 : DataW.trod enc Try.prog W 0 (fun _ => true) true n 76 [c0, c1, c2] = some y) :
    ∃ (o : Occ) (a : Option Addr) (cap : Nat), c0 = .int .i64 o.fr ∧ c1 = .int .i64 o.tl ∧ c2 = .slice a o.ids.length cap ∧ Ints W a o.ids ∧ o.Wf := by
  obtain ⟨y0, y1, y2, m, _, _, t0, t1, t2⟩ := trod_struct3 Try.underlying76 h2
  have k1 : Try.prog.cellsOf 3 = 1 := by kernel_rfl
  have ks : Try.prog.cellsOf 25 = 1 := by kernel_rfl
  obtain ⟨s0, e0, _, w0⟩ := DataW.trod_int Try.underlying3 t0
  obtain ⟨s1, e1, _, w1⟩ := DataW.trod_int Try.underlying3 t1
  obtain ⟨a, cap, l, e2, hl, hw⟩ := open_ints_trod t2
  simp [k1, ks] at e0 e1 e2
  exact ⟨⟨s0, s1, l⟩, a, cap, e0, e1, e2, hl, ⟨i64_of w0, i64_of w1, hw⟩⟩

theorem open_occ {base : Nat} {v0 : Value} {d0 : DataW H} {p0 : List MemPlace} (hv : Value.okWide Try.prog W .any base 76 v0) (h0 : DataW.Trod enc Try.prog W 0 (fun _ => true) true 76 v0 d0 p0) :
    ∃ (a : Option Addr) (cap : Nat) (o : Occ), v0 = .agg #[.int .i64 o.fr, .int .i64 o.tl, .slice a o.ids.length cap] ∧ Ints W a o.ids ∧ o.Wf := by
  have k3 : Try.prog.cellsOf 76 = 3 := by kernel_rfl
  obtain ⟨cs, rfl, hsz⟩ := okWide_struct Try.underlying76 hv
  rw [k3] at hsz
  obtain ⟨c0, c1, c2, rfl⟩ := Go.Joins.array3 hsz
  obtain ⟨fuel, hf⟩ := h0
  obtain ⟨o, a, cap, rfl, rfl, rfl, hl, hw⟩ := one_occ hf
  exact ⟨a, cap, o, rfl, hl, hw⟩

theorem open_occs_trod {fuel : Nat} {cs : List Value} {x : DataW H × List MemPlace} (h : DataW.trod enc Try.prog W 0 (fun _ => true) true fuel 121 cs = some x) :
    ∃ a cap, ∃ l : List Occ, cs = [.slice a l.length cap] ∧ Occs W a l ∧ ∀ o ∈ l, o.Wf := by
  rcases DataW.trod_slice Try.underlying121 h with ⟨rfl, _⟩ | ⟨a, len, cap, elems, rest, n, rfl, rfl, _, hb, hl, hm, hlen, hel, _, _⟩
  · exact ⟨none, 0, [], rfl, Occs.nil _ _, by simp⟩
  · have k3 : Try.prog.cellsOf 76 = 3 := by kernel_rfl
    rw [k3] at hel
    by_cases h00 : len = 0
    · subst h00
      exact ⟨_, cap, [], rfl, Occs.nil _ _, by simp⟩
    obtain ⟨b, off, spot⟩ := a
    have one : ∀ i, i < len → ∃ cs' y, W.cells? 0 (Addr.add ⟨b, off, spot⟩ (i * 3)) 3 = some cs' ∧ DataW.trod enc Try.prog W 0 (fun _ => true) true n 76 cs' = some y := by
      intro i hi
      have := hel i hi
      rw [List.getElem?_eq_getElem (by omega)] at this
      exact Option.bind_eq_some_iff.1 this |>.elim fun cs' hc => ⟨cs', _, hc.1, hc.2⟩
    have hspot : spot = none := by
      obtain ⟨cs', y, h1, h2⟩ := one 0 (by omega)
      obtain ⟨_, hlen, hcell⟩ := World.cells?_some h1
      have := hcell 0 (by omega)
      rw [List.getElem?_eq_getElem (by omega)] at this
      simpa [Addr.add] using World.cell?_spot this
    subst hspot
    have inh : Inhabited Occ := ⟨⟨0, 0, []⟩⟩
    obtain ⟨F, hF⟩ := choose_lt (α := Occ) (n := len) (p := fun i e => OneRd W b (off + i * 3) e ∧ e.Wf) (fun i hi => by
      obtain ⟨cs', y, h1, h2⟩ := one i hi
      rw [add_plain] at h1
      obtain ⟨_, hlen, hcell⟩ := World.cells?_some h1
      match cs', hlen with
      | [c0, c1, c2], _ =>
        obtain ⟨o, a, cap, rfl, rfl, rfl, hl, hw⟩ := one_occ h2
        have g0 := hcell 0 (by omega)
        have g1 := hcell 1 (by omega)
        have g2 := hcell 2 (by omega)
        rw [add_plain] at g0 g1 g2
        exact ⟨o, ⟨by simpa using g0, by simpa using g1, a, cap, by simpa using g2, hl⟩, hw⟩)
    refine ⟨_, cap, (List.range len).map F, by simp, ⟨by simp; omega, fun _ => ⟨b, off, rfl, block_lt (hF 0 (by omega)).1.1, fun i hi => ?_⟩⟩, ?_⟩
    · simp only [List.length_map, List.length_range] at hi
      simpa using (hF i hi).1
    · intro e he
      simp only [List.mem_map, List.mem_range] at he
      obtain ⟨i, hi, rfl⟩ := he
      exact (hF i hi).2

theorem open_occs {base : Nat} {v0 : Value} {d0 : DataW H} {p0 : List MemPlace} (hv : Value.okWide Try.prog W .any base 121 v0) (h0 : DataW.Trod enc Try.prog W 0 (fun _ => true) true 121 v0 d0 p0) :
    ∃ a cap, ∃ l : List Occ, v0 = .slice a l.length cap ∧ Occs W a l ∧ ∀ o ∈ l, o.Wf := by
  obtain ⟨a, len, cap, rfl⟩ := okWide_slice Try.underlying121 hv
  obtain ⟨fuel, hf⟩ := h0
  obtain ⟨a', cap', l, e, hl, hw⟩ := open_occs_trod hf
  simp [Value.cells] at e
  obtain ⟨rfl, rfl, rfl⟩ := e
  exact ⟨_, _, l, rfl, hl, hw⟩
end
end Go.Proofs.Ythlddehmebgfoaa
namespace Go.Proofs.Ythlddehmebgfoaa
open Go.ChangeShapes Go.WideShapes Go.ChangeAt Go.RowKit
set_option linter.unusedVariables false

/-- Block A is the box of one value of three cells. -/
def Box3 (w : World) (A : Nat) (v0 v1 v2 : Value) : Prop := ∃ t f, w.heap[A]? = some (.cells #[v0, v1, v2] t f)
theorem Box3.cells {w : World} {A : Nat} {v0 v1 v2 : Value} (h : Box3 w A v0 v1 v2) : w.cell? ⟨A, 0, none⟩ = some v0 ∧ w.cell? ⟨A, 1, none⟩ = some v1 ∧ w.cell? ⟨A, 2, none⟩ = some v2 := by
  obtain ⟨t, f, h⟩ := h
  exact ⟨oCell h 0, oCell h 1, oCell h 2⟩
theorem Box3.lt {w : World} {A : Nat} {v0 v1 v2 : Value} (h : Box3 w A v0 v1 v2) : A < w.heap.size := by
  obtain ⟨t, f, h⟩ := h
  exact (Array.getElem?_eq_some_iff.1 h).1
theorem Box3.below {w w' : World} {A : Nat} {v0 v1 v2 : Value} (h : Box3 w A v0 v1 v2) (hb : Below w.heap.size w w') : Box3 w' A v0 v1 v2 := by
  have hl := h.lt
  obtain ⟨t, f, h⟩ := h
  exact ⟨t, f, (hb.block A hl).trans h⟩
theorem Box3.only {w w' : World} {A : Nat} {v0 v1 v2 : Value} {row : Option Nat} (h : Box3 w A v0 v1 v2) (hg : w.grownBy w' row) (hne : row ≠ some A) : Box3 w' A v0 v1 v2 := by
  have hl := h.lt
  obtain ⟨t, f, h⟩ := h
  exact ⟨t, f, (hg.block A hl (fun e => hne e.symm)).trans h⟩
theorem box3_new (w : World) (v0 v1 v2 : Value) (t : TypeId) : Box3 (w.alloc (.cells #[v0, v1, v2] t)) w.heap.size v0 v1 v2 := ⟨t, (0, 0), heap_alloc_new w _⟩
theorem oBelow_new (w : World) (o : Obj) : Below w.heap.size w (w.alloc o) := (Below.refl _ _).alloc (Nat.le_refl _) _
/-- A row of numbers can be read. -/
theorem IntRow.ints {w : World} {b : Nat} {l : List Int} (h : IntRow w b l) (hl : l.length ≤ maxLen) : Ints w (some ⟨b, 0, none⟩) l := by
  obtain ⟨c, t, hb, hs, hc⟩ := h
  exact ⟨hl, fun _ => ⟨b, 0, rfl, (Array.getElem?_eq_some_iff.1 hb).1, fun i hi => by simp [World.cell?, hb, hc i hi]⟩⟩
end Go.Proofs.Ythlddehmebgfoaa
