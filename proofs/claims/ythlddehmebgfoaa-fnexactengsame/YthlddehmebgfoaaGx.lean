/- Rows of graphs and rows of what followed, as plain data; where they lie in memory; such rows that came in. -/
import Derived.Test.YthlddehmebgfoaaNd1
namespace Go.Proofs.Ythlddehmebgfoaa
open Go.ChangeShapes Go.WideShapes Go.ChangeAt Go.RowKit Go.Deep
set_option linter.unusedVariables false
set_option maxRecDepth 4000

/-- A graph: its mode, its parts, what it has seen, when, whether it is full. -/
structure Gx where
  m : Int
  l : List Nd
  se : Int
  nw : Int
  fu : Bool
def gxC (x : Gx) (a : Option Addr) (c : Nat) : Array Value := gC x.m a x.l.length c x.se x.nw x.fu
def gxV (x : Gx) (a : Option Addr) (c : Nat) : Value := .agg (gxC x a c)
structure Gx.Wf (x : Gx) : Prop where
  m : I64 x.m
  se : I64 x.se
  nw : I64 x.nw
  l : ∀ o ∈ x.l, o.Wf
/-- The five cells of one. -/
def FiveG (w : World) (b o : Nat) (x : Gx) (a : Option Addr) (c : Nat) : Prop :=
  w.cell? ⟨b, o, none⟩ = some (.int .i64 x.m) ∧ w.cell? ⟨b, o + 1, none⟩ = some (.slice a x.l.length c) ∧ w.cell? ⟨b, o + 2, none⟩ = some (.int .i64 x.se) ∧ w.cell? ⟨b, o + 3, none⟩ = some (.int .i64 x.nw) ∧ w.cell? ⟨b, o + 4, none⟩ = some (.bool x.fu)
theorem FiveG.move {w w' : World} {b o : Nat} {x : Gx} {a : Option Addr} {c : Nat} (h : FiveG w b o x a c) (hc : ∀ q, o ≤ q → q < o + 5 → w'.cell? ⟨b, q, none⟩ = w.cell? ⟨b, q, none⟩) : FiveG w' b o x a c := by
  obtain ⟨h0, h1, h2, h3, h4⟩ := h
  exact ⟨(hc _ (by omega) (by omega)).trans h0, (hc _ (by omega) (by omega)).trans h1, (hc _ (by omega) (by omega)).trans h2, (hc _ (by omega) (by omega)).trans h3, (hc _ (by omega) (by omega)).trans h4⟩
def GxRd (w : World) (b off : Nat) (x : Gx) : Prop := ∃ a c, FiveG w b off x a c ∧ Nds w a x.l
structure Gxs (w : World) (a : Option Addr) (l : List Gx) : Prop where
  len : l.length ≤ maxLen
  cells : 0 < l.length → ∃ b off, a = some ⟨b, off, none⟩ ∧ b < w.heap.size ∧ ∀ i (h : i < l.length), GxRd w b (off + i * 5) l[i]
theorem GxRd.below {w w' : World} {b off : Nat} {x : Gx} (h : GxRd w b off x) (hlt : b < w.heap.size) (hb : Below w.heap.size w w') : GxRd w' b off x := by
  obtain ⟨a, c, ht, hi⟩ := h
  exact ⟨a, c, ht.move (fun q _ _ => hb.cell hlt), hi.below hb⟩
theorem Gxs.below {w w' : World} {a : Option Addr} {l : List Gx} (h : Gxs w a l) (hb : Below w.heap.size w w') : Gxs w' a l := by
  refine ⟨h.len, fun hl => ?_⟩
  obtain ⟨b, off, ha, hlt, hc⟩ := h.cells hl
  exact ⟨b, off, ha, Nat.lt_of_lt_of_le hlt hb.size, fun i hi => (hc i hi).below hlt hb⟩
theorem Gxs.nil (w : World) (a : Option Addr) : Gxs w a [] := ⟨by simp, by simp⟩
theorem Gxs.at {w : World} {a : Option Addr} {l : List Gx} (h : Gxs w a l) {k : Nat} (hk : k < l.length) :
    ∃ b off p c, a = some ⟨b, off, none⟩ ∧ b < w.heap.size ∧ FiveG w b (off + k * 5) l[k] p c ∧ Nds w p l[k].l := by
  obtain ⟨b, off, ha, hlt, hc⟩ := h.cells (by omega)
  obtain ⟨p, c, h1, h2⟩ := hc k hk
  exact ⟨b, off, p, c, ha, hlt, h1, h2⟩

/-- What followed: the place of a rule, and what was found. -/
structure Fx where
  ru : Int
  oc : Occ
def fxC (x : Fx) (a : Option Addr) (c : Nat) : Array Value := #[.int .i64 x.ru, .int .i64 x.oc.fr, .int .i64 x.oc.tl, .slice a x.oc.ids.length c]
def fxV (x : Fx) (a : Option Addr) (c : Nat) : Value := .agg (fxC x a c)
structure Fx.Wf (x : Fx) : Prop where
  ru : I64 x.ru
  oc : x.oc.Wf
/-- The four cells of one. -/
def FourF (w : World) (b o : Nat) (x : Fx) (a : Option Addr) (c : Nat) : Prop :=
  w.cell? ⟨b, o, none⟩ = some (.int .i64 x.ru) ∧ w.cell? ⟨b, o + 1, none⟩ = some (.int .i64 x.oc.fr) ∧ w.cell? ⟨b, o + 2, none⟩ = some (.int .i64 x.oc.tl) ∧ w.cell? ⟨b, o + 3, none⟩ = some (.slice a x.oc.ids.length c)
theorem FourF.move {w w' : World} {b o : Nat} {x : Fx} {a : Option Addr} {c : Nat} (h : FourF w b o x a c) (hc : ∀ q, o ≤ q → q < o + 4 → w'.cell? ⟨b, q, none⟩ = w.cell? ⟨b, q, none⟩) : FourF w' b o x a c := by
  obtain ⟨h0, h1, h2, h3⟩ := h
  exact ⟨(hc _ (by omega) (by omega)).trans h0, (hc _ (by omega) (by omega)).trans h1, (hc _ (by omega) (by omega)).trans h2, (hc _ (by omega) (by omega)).trans h3⟩
theorem Bx.fourF {w : World} {A : Nat} {x : Fx} {a : Option Addr} {c : Nat} (h : Bx w A (fxC x a c)) : FourF w A 0 x a c :=
  ⟨h.cell 0 rfl, h.cell 1 rfl, h.cell 2 rfl, h.cell 3 rfl⟩
theorem Bx.fiveG {w : World} {A : Nat} {x : Gx} {a : Option Addr} {c : Nat} (h : Bx w A (gxC x a c)) : FiveG w A 0 x a c :=
  ⟨h.cell 0 rfl, h.cell 1 rfl, h.cell 2 rfl, h.cell 3 rfl, h.cell 4 rfl⟩
def FxRd (w : World) (b off : Nat) (x : Fx) : Prop := ∃ a c, FourF w b off x a c ∧ Ints w a x.oc.ids
structure Fxs (w : World) (a : Option Addr) (l : List Fx) : Prop where
  len : l.length ≤ maxLen
  cells : 0 < l.length → ∃ b off, a = some ⟨b, off, none⟩ ∧ b < w.heap.size ∧ ∀ i (h : i < l.length), FxRd w b (off + i * 4) l[i]
theorem FxRd.below {w w' : World} {b off : Nat} {x : Fx} (h : FxRd w b off x) (hlt : b < w.heap.size) (hb : Below w.heap.size w w') : FxRd w' b off x := by
  obtain ⟨a, c, ht, hi⟩ := h
  exact ⟨a, c, ht.move (fun q _ _ => hb.cell hlt), hi.below hb⟩
theorem Fxs.below {w w' : World} {a : Option Addr} {l : List Fx} (h : Fxs w a l) (hb : Below w.heap.size w w') : Fxs w' a l := by
  refine ⟨h.len, fun hl => ?_⟩
  obtain ⟨b, off, ha, hlt, hc⟩ := h.cells hl
  exact ⟨b, off, ha, Nat.lt_of_lt_of_le hlt hb.size, fun i hi => (hc i hi).below hlt hb⟩
theorem Fxs.nil (w : World) (a : Option Addr) : Fxs w a [] := ⟨by simp, by simp⟩
theorem Fxs.at {w : World} {a : Option Addr} {l : List Fx} (h : Fxs w a l) {k : Nat} (hk : k < l.length) :
    ∃ b off p c, a = some ⟨b, off, none⟩ ∧ b < w.heap.size ∧ FourF w b (off + k * 4) l[k] p c ∧ Ints w p l[k].oc.ids := by
  obtain ⟨b, off, ha, hlt, hc⟩ := h.cells (by omega)
  obtain ⟨p, c, h1, h2⟩ := hc k hk
  exact ⟨b, off, p, c, ha, hlt, h1, h2⟩

section
variable {H : Type} {enc : TypeId × Value → H} {W : World}
theorem one_gx {n : Nat} {cs : List Value} {y : DataW H × List MemPlace} (hc : cs.length = 5) (h2 : DataW.trod enc Try.prog W 0 (fun _ => true) true n 74 cs = some y) :
    ∃ (x : Gx) (a : Option Addr) (c : Nat), cs = (gxC x a c).toList ∧ Nds W a x.l ∧ x.Wf := by
  match cs, hc with
  | [c0, c1, c2, c3, c4], _ =>
    obtain ⟨m, hm⟩ := trod_struct5 Try.underlying74 h2
    have k1 : Try.prog.cellsOf 3 = 1 := by kernel_rfl
    have kb : Try.prog.cellsOf 4 = 1 := by kernel_rfl
    have kn : Try.prog.cellsOf 72 = 1 := by kernel_rfl
    obtain ⟨_, t0⟩ := hm _ (List.mem_cons_self)
    obtain ⟨_, t1⟩ := hm _ (List.mem_cons_of_mem _ (List.mem_cons_self))
    obtain ⟨_, t2⟩ := hm _ (List.mem_cons_of_mem _ (List.mem_cons_of_mem _ (List.mem_cons_self)))
    obtain ⟨_, t3⟩ := hm _ (List.mem_cons_of_mem _ (List.mem_cons_of_mem _ (List.mem_cons_of_mem _ (List.mem_cons_self))))
    obtain ⟨_, t4⟩ := hm _ (List.mem_cons_of_mem _ (List.mem_cons_of_mem _ (List.mem_cons_of_mem _ (List.mem_cons_of_mem _ (List.mem_cons_self)))))
    simp only [k1, kb, kn] at t0 t1 t2 t3 t4
    simp at t0 t1 t2 t3 t4
    obtain ⟨n0, e0, _, w0⟩ := DataW.trod_int Try.underlying3 t0
    obtain ⟨a, cap, l, e1, hl, hw⟩ := open_nds_trod t1
    obtain ⟨n2, e2, _, w2⟩ := DataW.trod_int Try.underlying3 t2
    obtain ⟨n3, e3, _, w3⟩ := DataW.trod_int Try.underlying3 t3
    obtain ⟨b4, e4, _⟩ := DataW.trod_bool Try.underlying4 t4
    simp at e0 e1 e2 e3 e4
    subst e0 e1 e2 e3 e4
    exact ⟨⟨n0, l, n2, n3, b4⟩, a, cap, rfl, hl, ⟨i64_of w0, i64_of w2, i64_of w3, hw⟩⟩

theorem open_gxs_trod {fuel : Nat} {cs : List Value} {x : DataW H × List MemPlace} (h : DataW.trod enc Try.prog W 0 (fun _ => true) true fuel 23 cs = some x) :
    ∃ a cap, ∃ l : List Gx, cs = [.slice a l.length cap] ∧ Gxs W a l ∧ ∀ o ∈ l, o.Wf := by
  rcases DataW.trod_slice Try.underlying23 h with ⟨rfl, _⟩ | ⟨a, len, cap, elems, rest, n, rfl, rfl, _, hb, hl, hm, hlen, hel, _, _⟩
  · exact ⟨none, 0, [], rfl, Gxs.nil _ _, by simp⟩
  · have k3 : Try.prog.cellsOf 74 = 5 := by kernel_rfl
    rw [k3] at hel
    by_cases h00 : len = 0
    · subst h00
      exact ⟨_, cap, [], rfl, Gxs.nil _ _, by simp⟩
    obtain ⟨b, off, spot⟩ := a
    have one : ∀ i, i < len → ∃ cs' y, W.cells? 0 (Addr.add ⟨b, off, spot⟩ (i * 5)) 5 = some cs' ∧ DataW.trod enc Try.prog W 0 (fun _ => true) true n 74 cs' = some y := by
      intro i hi
      have := hel i hi
      rw [List.getElem?_eq_getElem (by omega)] at this
      exact Option.bind_eq_some_iff.1 this |>.elim fun cs' hc => ⟨cs', _, hc.1, hc.2⟩
    have hspot : spot = none := by
      obtain ⟨cs', y, h1, h2⟩ := one 0 (by omega)
      obtain ⟨_, hlen, hcell⟩ := World.cells?_some h1
      have := hcell 0 (by omega)
      rw [List.getElem?_eq_getElem (by omega)] at this
      simpa [Addr.add] using World.cell?_spot this
    subst hspot
    have inh : Inhabited Gx := ⟨⟨0, [], 0, 0, false⟩⟩
    obtain ⟨F, hF⟩ := choose_lt (α := Gx) (n := len) (p := fun i e => GxRd W b (off + i * 5) e ∧ e.Wf) (fun i hi => by
      obtain ⟨cs', y, h1, h2⟩ := one i hi
      rw [add_plain] at h1
      obtain ⟨_, hlen, hcell⟩ := World.cells?_some h1
      obtain ⟨x, a, c, rfl, hin, hw⟩ := one_gx hlen h2
      have g : ∀ (j : Nat) (v : Value), j < 5 → (gxC x a c)[j]? = some v → W.cell? ⟨b, off + i * 5 + j, none⟩ = some v := fun j v hj' hj => by
        have := hcell j hj'
        rw [add_plain] at this
        simp only [Array.getElem?_toList] at this
        exact this.trans hj
      exact ⟨x, ⟨a, c, ⟨g 0 _ (by omega) rfl, g 1 _ (by omega) rfl, g 2 _ (by omega) rfl, g 3 _ (by omega) rfl, g 4 _ (by omega) rfl⟩, hin⟩, hw⟩)
    refine ⟨_, cap, (List.range len).map F, by simp, ⟨by simp; omega, fun _ => ⟨b, off, rfl, ?_, fun i hi => ?_⟩⟩, ?_⟩
    · obtain ⟨⟨p, c, hc, _⟩, _⟩ := hF 0 (by omega)
      exact block_lt hc.1
    · simp only [List.length_map, List.length_range] at hi
      simpa using (hF i hi).1
    · intro e he
      simp only [List.mem_map, List.mem_range] at he
      obtain ⟨i, hi, rfl⟩ := he
      exact (hF i hi).2

theorem one_fx {n : Nat} {cs : List Value} {y : DataW H × List MemPlace} (hc : cs.length = 4) (h2 : DataW.trod enc Try.prog W 0 (fun _ => true) true n 78 cs = some y) :
    ∃ (x : Fx) (a : Option Addr) (c : Nat), cs = (fxC x a c).toList ∧ Ints W a x.oc.ids ∧ x.Wf := by
  match cs, hc with
  | [c0, c1, c2, c3], _ =>
    obtain ⟨y0, y1, m, _, _, t0, t1⟩ := trod_struct2 Try.underlying78 h2
    have k1 : Try.prog.cellsOf 3 = 1 := by kernel_rfl
    have ko : Try.prog.cellsOf 76 = 3 := by kernel_rfl
    simp only [k1, ko] at t0 t1
    simp at t0 t1
    obtain ⟨n0, e0, _, w0⟩ := DataW.trod_int Try.underlying3 t0
    obtain ⟨o, a, cap, rfl, rfl, rfl, hl, hw⟩ := one_occ t1
    simp at e0
    subst e0
    exact ⟨⟨n0, o⟩, a, cap, rfl, hl, ⟨i64_of w0, hw⟩⟩

theorem open_fxs_trod {fuel : Nat} {cs : List Value} {x : DataW H × List MemPlace} (h : DataW.trod enc Try.prog W 0 (fun _ => true) true fuel 26 cs = some x) :
    ∃ a cap, ∃ l : List Fx, cs = [.slice a l.length cap] ∧ Fxs W a l ∧ ∀ o ∈ l, o.Wf := by
  rcases DataW.trod_slice Try.underlying26 h with ⟨rfl, _⟩ | ⟨a, len, cap, elems, rest, n, rfl, rfl, _, hb, hl, hm, hlen, hel, _, _⟩
  · exact ⟨none, 0, [], rfl, Fxs.nil _ _, by simp⟩
  · have k3 : Try.prog.cellsOf 78 = 4 := by kernel_rfl
    rw [k3] at hel
    by_cases h00 : len = 0
    · subst h00
      exact ⟨_, cap, [], rfl, Fxs.nil _ _, by simp⟩
    obtain ⟨b, off, spot⟩ := a
    have one : ∀ i, i < len → ∃ cs' y, W.cells? 0 (Addr.add ⟨b, off, spot⟩ (i * 4)) 4 = some cs' ∧ DataW.trod enc Try.prog W 0 (fun _ => true) true n 78 cs' = some y := by
      intro i hi
      have := hel i hi
      rw [List.getElem?_eq_getElem (by omega)] at this
      exact Option.bind_eq_some_iff.1 this |>.elim fun cs' hc => ⟨cs', _, hc.1, hc.2⟩
    have hspot : spot = none := by
      obtain ⟨cs', y, h1, h2⟩ := one 0 (by omega)
      obtain ⟨_, hlen, hcell⟩ := World.cells?_some h1
      have := hcell 0 (by omega)
      rw [List.getElem?_eq_getElem (by omega)] at this
      simpa [Addr.add] using World.cell?_spot this
    subst hspot
    have inh : Inhabited Fx := ⟨⟨0, ⟨0, 0, []⟩⟩⟩
    obtain ⟨F, hF⟩ := choose_lt (α := Fx) (n := len) (p := fun i e => FxRd W b (off + i * 4) e ∧ e.Wf) (fun i hi => by
      obtain ⟨cs', y, h1, h2⟩ := one i hi
      rw [add_plain] at h1
      obtain ⟨_, hlen, hcell⟩ := World.cells?_some h1
      obtain ⟨x, a, c, rfl, hin, hw⟩ := one_fx hlen h2
      have g : ∀ (j : Nat) (v : Value), j < 4 → (fxC x a c)[j]? = some v → W.cell? ⟨b, off + i * 4 + j, none⟩ = some v := fun j v hj' hj => by
        have := hcell j hj'
        rw [add_plain] at this
        simp only [Array.getElem?_toList] at this
        exact this.trans hj
      exact ⟨x, ⟨a, c, ⟨g 0 _ (by omega) rfl, g 1 _ (by omega) rfl, g 2 _ (by omega) rfl, g 3 _ (by omega) rfl⟩, hin⟩, hw⟩)
    refine ⟨_, cap, (List.range len).map F, by simp, ⟨by simp; omega, fun _ => ⟨b, off, rfl, ?_, fun i hi => ?_⟩⟩, ?_⟩
    · obtain ⟨⟨p, c, hc, _⟩, _⟩ := hF 0 (by omega)
      exact block_lt hc.1
    · simp only [List.length_map, List.length_range] at hi
      simpa using (hF i hi).1
    · intro e he
      simp only [List.mem_map, List.mem_range] at he
      obtain ⟨i, hi, rfl⟩ := he
      exact (hF i hi).2
end
end Go.Proofs.Ythlddehmebgfoaa
