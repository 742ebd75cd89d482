/- Parts of a graph, as plain data; where they lie in memory; a graph that came in. -/
import Derived.Test.YthlddehmebgfoaaTwo
import Derived.Test.YthlddehmebgfoaaBox
namespace Go.Proofs.Ythlddehmebgfoaa
open Go.ChangeShapes Go.WideShapes Go.ChangeAt Go.RowKit Go.Deep
set_option linter.unusedVariables false
set_option maxRecDepth 4000

/-- A part of a graph: its kind, what, how much later, its parts, what waits, what is in the middle, what is due, how often it was found. -/
structure Nd where
  kd : Int
  sy : Int
  nn : Int
  ks : List Int
  pl : List Occ
  pr : List Occ
  sl : List Occ
  sm : List Occ
  du : List Occ
  mn : Int
/-- Where its lists begin, and how much room they have. -/
structure NA where
  a0 : Option Addr
  a1 : Option Addr
  a2 : Option Addr
  a3 : Option Addr
  a4 : Option Addr
  a5 : Option Addr
  c0 : Nat
  c1 : Nat
  c2 : Nat
  c3 : Nat
  c4 : Nat
  c5 : Nat
def ndC (x : Nd) (p : NA) : Array Value := #[.int .i64 x.kd, .int .i64 x.sy, .int .i64 x.nn, .slice p.a0 x.ks.length p.c0, .slice p.a1 x.pl.length p.c1, .slice p.a2 x.pr.length p.c2, .slice p.a3 x.sl.length p.c3, .slice p.a4 x.sm.length p.c4, .slice p.a5 x.du.length p.c5, .int .i64 x.mn]
def ndV (x : Nd) (p : NA) : Value := .agg (ndC x p)

/-- Its lists can be read. -/
structure NdIn (w : World) (p : NA) (x : Nd) : Prop where
  ks : Ints w p.a0 x.ks
  pl : Occs w p.a1 x.pl
  pr : Occs w p.a2 x.pr
  sl : Occs w p.a3 x.sl
  sm : Occs w p.a4 x.sm
  du : Occs w p.a5 x.du
theorem NdIn.below {w w' : World} {p : NA} {x : Nd} (h : NdIn w p x) (hb : Below w.heap.size w w') : NdIn w' p x :=
  ⟨h.ks.below hb, h.pl.below hb, h.pr.below hb, h.sl.below hb, h.sm.below hb, h.du.below hb⟩
/-- Its numbers are those that an int holds. -/
structure Nd.Wf (x : Nd) : Prop where
  kd : I64 x.kd
  sy : I64 x.sy
  nn : I64 x.nn
  mn : I64 x.mn
  ks : ∀ k ∈ x.ks, I64 k
  pl : ∀ o ∈ x.pl, o.Wf
  pr : ∀ o ∈ x.pr, o.Wf
  sl : ∀ o ∈ x.sl, o.Wf
  sm : ∀ o ∈ x.sm, o.Wf
  du : ∀ o ∈ x.du, o.Wf

/-- From cell off on block b holds one. -/
def NdRd (w : World) (b off : Nat) (x : Nd) : Prop := ∃ p, (∀ j v, (ndC x p)[j]? = some v → w.cell? ⟨b, off + j, none⟩ = some v) ∧ NdIn w p x
/-- The slice whose address is a holds the parts l. -/
structure Nds (w : World) (a : Option Addr) (l : List Nd) : Prop where
  len : l.length ≤ maxLen
  cells : 0 < l.length → ∃ b off, a = some ⟨b, off, none⟩ ∧ b < w.heap.size ∧ ∀ i (h : i < l.length), NdRd w b (off + i * 10) l[i]
theorem NdRd.below {w w' : World} {b off : Nat} {x : Nd} (h : NdRd w b off x) (hlt : b < w.heap.size) (hb : Below w.heap.size w w') : NdRd w' b off x := by
  obtain ⟨p, hc, hi⟩ := h
  exact ⟨p, fun j v hj => by rw [hb.cell hlt]; exact hc j v hj, hi.below hb⟩
theorem Nds.below {w w' : World} {a : Option Addr} {l : List Nd} (h : Nds w a l) (hb : Below w.heap.size w w') : Nds w' a l := by
  refine ⟨h.len, fun hl => ?_⟩
  obtain ⟨b, off, ha, hlt, hc⟩ := h.cells hl
  exact ⟨b, off, ha, Nat.lt_of_lt_of_le hlt hb.size, fun i hi => (hc i hi).below hlt hb⟩
theorem Nds.nil (w : World) (a : Option Addr) : Nds w a [] := ⟨by simp, by simp⟩

/-- The ten cells of one. -/
def Ten (w : World) (b o : Nat) (x : Nd) (p : NA) : Prop :=
  w.cell? ⟨b, o, none⟩ = some (.int .i64 x.kd) ∧ w.cell? ⟨b, o + 1, none⟩ = some (.int .i64 x.sy) ∧ w.cell? ⟨b, o + 2, none⟩ = some (.int .i64 x.nn) ∧ w.cell? ⟨b, o + 3, none⟩ = some (.slice p.a0 x.ks.length p.c0) ∧
  w.cell? ⟨b, o + 4, none⟩ = some (.slice p.a1 x.pl.length p.c1) ∧ w.cell? ⟨b, o + 5, none⟩ = some (.slice p.a2 x.pr.length p.c2) ∧ w.cell? ⟨b, o + 6, none⟩ = some (.slice p.a3 x.sl.length p.c3) ∧
  w.cell? ⟨b, o + 7, none⟩ = some (.slice p.a4 x.sm.length p.c4) ∧ w.cell? ⟨b, o + 8, none⟩ = some (.slice p.a5 x.du.length p.c5) ∧ w.cell? ⟨b, o + 9, none⟩ = some (.int .i64 x.mn)
/-- One of the list: what a round of a loop wants of it. -/
theorem Nds.at {w : World} {a : Option Addr} {l : List Nd} (h : Nds w a l) {k : Nat} (hk : k < l.length) :
    ∃ b off p, a = some ⟨b, off, none⟩ ∧ b < w.heap.size ∧ Ten w b (off + k * 10) l[k] p ∧ NdIn w p l[k] := by
  obtain ⟨b, off, ha, hlt, hc⟩ := h.cells (by omega)
  obtain ⟨p, h1, h2⟩ := hc k hk
  exact ⟨b, off, p, ha, hlt, ⟨h1 0 _ rfl, h1 1 _ rfl, h1 2 _ rfl, h1 3 _ rfl, h1 4 _ rfl, h1 5 _ rfl, h1 6 _ rfl, h1 7 _ rfl, h1 8 _ rfl, h1 9 _ rfl⟩, h2⟩
theorem Ten.rd {w : World} {b o : Nat} {x : Nd} {p : NA} (h : Ten w b o x p) (hi : NdIn w p x) : NdRd w b o x := by
  obtain ⟨h0, h1, h2, h3, h4, h5, h6, h7, h8, h9⟩ := h
  refine ⟨p, fun j v hj => ?_, hi⟩
  match j, hj with
  | 0, hj => simp [ndC] at hj; subst hj; exact h0
  | 1, hj => simp [ndC] at hj; subst hj; exact h1
  | 2, hj => simp [ndC] at hj; subst hj; exact h2
  | 3, hj => simp [ndC] at hj; subst hj; exact h3
  | 4, hj => simp [ndC] at hj; subst hj; exact h4
  | 5, hj => simp [ndC] at hj; subst hj; exact h5
  | 6, hj => simp [ndC] at hj; subst hj; exact h6
  | 7, hj => simp [ndC] at hj; subst hj; exact h7
  | 8, hj => simp [ndC] at hj; subst hj; exact h8
  | 9, hj => simp [ndC] at hj; subst hj; exact h9
  | j + 10, hj => simp [ndC] at hj

theorem Bx.ten {w : World} {A : Nat} {x : Nd} {p : NA} (h : Bx w A (ndC x p)) : Ten w A 0 x p :=
  ⟨h.cell 0 rfl, h.cell 1 rfl, h.cell 2 rfl, h.cell 3 rfl, h.cell 4 rfl, h.cell 5 rfl, h.cell 6 rfl, h.cell 7 rfl, h.cell 8 rfl, h.cell 9 rfl⟩

section
variable {H : Type} {enc : TypeId × Value → H} {W : World}
theorem two_occs {t : TypeId} {f0 f1 : Field} {n : Nat} {c0 c1 : Value} {y : DataW H × List MemPlace} (ht : Try.prog.underlying t = some (.struct #[f0, f1])) (e0 : f0.type = 121 ∧ f0.offset = 0) (e1 : f1.type = 121 ∧ f1.offset = 1)
    (h : DataW.trod enc Try.prog W 0 (fun _ => true) true n t [c0, c1] = some y) :
    ∃ (a a' : Option Addr) (cap cap' : Nat) (l l' : List Occ), c0 = .slice a l.length cap ∧ c1 = .slice a' l'.length cap' ∧ Occs W a l ∧ (∀ o ∈ l, o.Wf) ∧ Occs W a' l' ∧ ∀ o ∈ l', o.Wf := by
  obtain ⟨y0, y1, m, _, _, t0, t1⟩ := trod_struct2 ht h
  have ks : Try.prog.cellsOf 121 = 1 := by kernel_rfl
  rw [e0.1, e0.2] at t0
  rw [e1.1, e1.2] at t1
  obtain ⟨a, cap, l, e0, hl, hw⟩ := open_occs_trod t0
  obtain ⟨a', cap', l', e1, hl', hw'⟩ := open_occs_trod t1
  simp [ks] at e0 e1
  exact ⟨a, a', cap, cap', l, l', e0, e1, hl, hw, hl', hw'⟩

theorem one_nd {n : Nat} {cs : List Value} {y : DataW H × List MemPlace} (hc : cs.length = 10) (h2 : DataW.trod enc Try.prog W 0 (fun _ => true) true n 127 cs = some y) :
    ∃ (x : Nd) (p : NA), cs = (ndC x p).toList ∧ NdIn W p x ∧ x.Wf := by
  match cs, hc with
  | [c0, c1, c2, c3, c4, c5, c6, c7, c8, c9], _ =>
    obtain ⟨m, hm⟩ := trod_struct8 Try.underlying127 h2
    have k1 : Try.prog.cellsOf 3 = 1 := by kernel_rfl
    have ks : Try.prog.cellsOf 25 = 1 := by kernel_rfl
    have ko : Try.prog.cellsOf 121 = 1 := by kernel_rfl
    have kp : Try.prog.cellsOf 123 = 2 := by kernel_rfl
    have kq : Try.prog.cellsOf 125 = 2 := by kernel_rfl
    obtain ⟨_, t0⟩ := hm _ (List.mem_cons_self)
    obtain ⟨_, t1⟩ := hm _ (List.mem_cons_of_mem _ (List.mem_cons_self))
    obtain ⟨_, t2⟩ := hm _ (List.mem_cons_of_mem _ (List.mem_cons_of_mem _ (List.mem_cons_self)))
    obtain ⟨_, t3⟩ := hm _ (List.mem_cons_of_mem _ (List.mem_cons_of_mem _ (List.mem_cons_of_mem _ (List.mem_cons_self))))
    obtain ⟨_, t4⟩ := hm _ (List.mem_cons_of_mem _ (List.mem_cons_of_mem _ (List.mem_cons_of_mem _ (List.mem_cons_of_mem _ (List.mem_cons_self)))))
    obtain ⟨_, t5⟩ := hm _ (List.mem_cons_of_mem _ (List.mem_cons_of_mem _ (List.mem_cons_of_mem _ (List.mem_cons_of_mem _ (List.mem_cons_of_mem _ (List.mem_cons_self))))))
    obtain ⟨_, t6⟩ := hm _ (List.mem_cons_of_mem _ (List.mem_cons_of_mem _ (List.mem_cons_of_mem _ (List.mem_cons_of_mem _ (List.mem_cons_of_mem _ (List.mem_cons_of_mem _ (List.mem_cons_self)))))))
    obtain ⟨_, t7⟩ := hm _ (List.mem_cons_of_mem _ (List.mem_cons_of_mem _ (List.mem_cons_of_mem _ (List.mem_cons_of_mem _ (List.mem_cons_of_mem _ (List.mem_cons_of_mem _ (List.mem_cons_of_mem _ (List.mem_cons_self))))))))
    simp only [k1, ks, ko, kp, kq] at t0 t1 t2 t3 t4 t5 t6 t7
    simp at t0 t1 t2 t3 t4 t5 t6 t7
    obtain ⟨n0, e0, _, w0⟩ := DataW.trod_int Try.underlying3 t0
    obtain ⟨n1, e1, _, w1⟩ := DataW.trod_int Try.underlying3 t1
    obtain ⟨n2, e2, _, w2⟩ := DataW.trod_int Try.underlying3 t2
    obtain ⟨a0, p0, l0, e3, h0, g0⟩ := open_ints_trod t3
    obtain ⟨a1, a2, p1, p2, l1, l2, rfl, rfl, h1, g1, hh2, g2⟩ := two_occs Try.underlying123 ⟨rfl, rfl⟩ ⟨rfl, rfl⟩ t4
    obtain ⟨a3, a4, p3, p4, l3, l4, rfl, rfl, h3, g3, h4, g4⟩ := two_occs Try.underlying125 ⟨rfl, rfl⟩ ⟨rfl, rfl⟩ t5
    obtain ⟨a5, p5, l5, e8, h5, g5⟩ := open_occs_trod t6
    obtain ⟨n9, e9, _, w9⟩ := DataW.trod_int Try.underlying3 t7
    simp at e0 e1 e2 e3 e8 e9
    subst e0 e1 e2 e3 e8 e9
    exact ⟨⟨n0, n1, n2, l0, l1, l2, l3, l4, l5, n9⟩, ⟨a0, a1, a2, a3, a4, a5, p0, p1, p2, p3, p4, p5⟩, rfl, ⟨h0, h1, hh2, h3, h4, h5⟩, ⟨i64_of w0, i64_of w1, i64_of w2, i64_of w9, g0, g1, g2, g3, g4, g5⟩⟩

theorem open_nds_trod {fuel : Nat} {cs : List Value} {x : DataW H × List MemPlace} (h : DataW.trod enc Try.prog W 0 (fun _ => true) true fuel 72 cs = some x) :
    ∃ a cap, ∃ l : List Nd, cs = [.slice a l.length cap] ∧ Nds W a l ∧ ∀ o ∈ l, o.Wf := by
  rcases DataW.trod_slice Try.underlying72 h with ⟨rfl, _⟩ | ⟨a, len, cap, elems, rest, n, rfl, rfl, _, hb, hl, hm, hlen, hel, _, _⟩
  · exact ⟨none, 0, [], rfl, Nds.nil _ _, by simp⟩
  · have k3 : Try.prog.cellsOf 127 = 10 := by kernel_rfl
    rw [k3] at hel
    by_cases h00 : len = 0
    · subst h00
      exact ⟨_, cap, [], rfl, Nds.nil _ _, by simp⟩
    obtain ⟨b, off, spot⟩ := a
    have one : ∀ i, i < len → ∃ cs' y, W.cells? 0 (Addr.add ⟨b, off, spot⟩ (i * 10)) 10 = some cs' ∧ DataW.trod enc Try.prog W 0 (fun _ => true) true n 127 cs' = some y := by
      intro i hi
      have := hel i hi
      rw [List.getElem?_eq_getElem (by omega)] at this
      exact Option.bind_eq_some_iff.1 this |>.elim fun cs' hc => ⟨cs', _, hc.1, hc.2⟩
    have hspot : spot = none := by
      obtain ⟨cs', y, h1, h2⟩ := one 0 (by omega)
      obtain ⟨_, hlen, hcell⟩ := World.cells?_some h1
      have := hcell 0 (by omega)
      rw [List.getElem?_eq_getElem (by omega)] at this
      simpa [Addr.add] using World.cell?_spot this
    subst hspot
    have inh : Inhabited Nd := ⟨⟨0, 0, 0, [], [], [], [], [], [], 0⟩⟩
    obtain ⟨F, hF⟩ := choose_lt (α := Nd) (n := len) (p := fun i e => NdRd W b (off + i * 10) e ∧ e.Wf) (fun i hi => by
      obtain ⟨cs', y, h1, h2⟩ := one i hi
      rw [add_plain] at h1
      obtain ⟨_, hlen, hcell⟩ := World.cells?_some h1
      obtain ⟨x, p, rfl, hin, hw⟩ := one_nd hlen h2
      refine ⟨x, ⟨p, fun j v hj => ?_, hin⟩, hw⟩
      have hj' : j < 10 := by have := (Array.getElem?_eq_some_iff.1 hj).1; simpa [ndC] using this
      have := hcell j hj'
      rw [add_plain] at this
      simp only [Array.getElem?_toList] at this
      exact this.trans hj)
    refine ⟨_, cap, (List.range len).map F, by simp, ⟨by simp; omega, fun _ => ⟨b, off, rfl, ?_, fun i hi => ?_⟩⟩, ?_⟩
    · obtain ⟨⟨p, hc, _⟩, _⟩ := hF 0 (by omega)
      exact block_lt (hc 0 _ rfl)
    · simp only [List.length_map, List.length_range] at hi
      simpa using (hF i hi).1
    · intro e he
      simp only [List.mem_map, List.mem_range] at he
      obtain ⟨i, hi, rfl⟩ := he
      exact (hF i hi).2

theorem open_graph {base : Nat} {v0 : Value} {d0 : DataW H} {p0 : List MemPlace} (hv : Value.okWide Try.prog W .any base 74 v0) (h0 : DataW.Trod enc Try.prog W 0 (fun _ => true) true 74 v0 d0 p0) :
    ∃ (m : Int) (a : Option Addr) (cap : Nat) (l : List Nd) (se nw : Int) (fu : Bool), v0 = .agg #[.int .i64 m, .slice a l.length cap, .int .i64 se, .int .i64 nw, .bool fu] ∧ Nds W a l ∧ (∀ o ∈ l, o.Wf) ∧ I64 m ∧ I64 se ∧ I64 nw := by
  have k3 : Try.prog.cellsOf 74 = 5 := by kernel_rfl
  obtain ⟨cs, rfl, hsz⟩ := okWide_struct Try.underlying74 hv
  rw [k3] at hsz
  obtain ⟨fuel, hf⟩ := h0
  obtain ⟨cl⟩ := cs
  match cl, hsz with
  | [c0, c1, c2, c3, c4], _ =>
    obtain ⟨m, hm⟩ := trod_struct5 Try.underlying74 hf
    have k1 : Try.prog.cellsOf 3 = 1 := by kernel_rfl
    have kb : Try.prog.cellsOf 4 = 1 := by kernel_rfl
    have kn : Try.prog.cellsOf 72 = 1 := by kernel_rfl
    obtain ⟨_, t0⟩ := hm _ (List.mem_cons_self)
    obtain ⟨_, t1⟩ := hm _ (List.mem_cons_of_mem _ (List.mem_cons_self))
    obtain ⟨_, t2⟩ := hm _ (List.mem_cons_of_mem _ (List.mem_cons_of_mem _ (List.mem_cons_self)))
    obtain ⟨_, t3⟩ := hm _ (List.mem_cons_of_mem _ (List.mem_cons_of_mem _ (List.mem_cons_of_mem _ (List.mem_cons_self))))
    obtain ⟨_, t4⟩ := hm _ (List.mem_cons_of_mem _ (List.mem_cons_of_mem _ (List.mem_cons_of_mem _ (List.mem_cons_of_mem _ (List.mem_cons_self)))))
    simp only [k1, kb, kn] at t0 t1 t2 t3 t4
    simp [Value.cells] at t0 t1 t2 t3 t4
    obtain ⟨n0, e0, _, w0⟩ := DataW.trod_int Try.underlying3 t0
    obtain ⟨a, cap, l, e1, hl, hw⟩ := open_nds_trod t1
    obtain ⟨n2, e2, _, w2⟩ := DataW.trod_int Try.underlying3 t2
    obtain ⟨n3, e3, _, w3⟩ := DataW.trod_int Try.underlying3 t3
    obtain ⟨b4, e4, _⟩ := DataW.trod_bool Try.underlying4 t4
    simp at e0 e1 e2 e3 e4
    subst e0 e1 e2 e3 e4
    exact ⟨n0, a, cap, l, n2, n3, b4, rfl, hl, hw, i64_of w0, i64_of w2, i64_of w3⟩
end
end Go.Proofs.Ythlddehmebgfoaa
