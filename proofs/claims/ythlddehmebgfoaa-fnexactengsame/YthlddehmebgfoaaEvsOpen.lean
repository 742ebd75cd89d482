/- A list of events that came in, read as plain data: its address, its length, its events. -/
import Derived.Test.YthlddehmebgfoaaAfter
import Derived.Deep.Slices
import Derived.Deep.Strs
namespace Go.Proofs.Ythlddehmebgfoaa
open Go.ChangeShapes Go.WideShapes Go.ChangeAt Go.RowKit Go.Deep
set_option linter.unusedVariables false
set_option maxRecDepth 4000

section
variable {H : Type} {enc : TypeId × Value → H} {W : World}

/-- Its numbers are those that an int holds. -/
structure Ev.Wf (e : Ev) : Prop where
  a0 : -9223372036854775808 ≤ e.at'
  a1 : e.at' ≤ 9223372036854775807
  v0 : -9223372036854775808 ≤ e.val
  v1 : e.val ≤ 9223372036854775807

theorem i64_of {n : Int} (h : (Lit.int .i64 n).wf = true) : -9223372036854775808 ≤ n ∧ n ≤ 9223372036854775807 := by simpa [Lit.wf, IntKind.min, IntKind.max, IntKind.signed, IntKind.bits] using h

theorem one_ev {b off n : Nat} {cs' : List Value} {y : DataW H × List MemPlace} (h1 : W.cells? 0 ⟨b, off, none⟩ 3 = some cs')
    (h2 : DataW.trod enc Try.prog W 0 (fun _ => true) true n 99 cs' = some y) :
    ∃ e : Ev, W.cell? ⟨b, off, none⟩ = some (.int .i64 e.sym) ∧ W.cell? ⟨b, off + 1, none⟩ = some (.int .i64 e.at') ∧ W.cell? ⟨b, off + 2, none⟩ = some (.int .i64 e.val) ∧ e.Wf := by
  obtain ⟨_, hlen, hcell⟩ := World.cells?_some h1
  match cs', hlen with
  | [c0, c1, c2], _ =>
    obtain ⟨y0, y1, y2, m, _, _, t0, t1, t2⟩ := trod_struct3 Try.underlying99 h2
    obtain ⟨s, e0, _, ws⟩ := DataW.trod_int Try.underlying3 t0
    obtain ⟨a, e1, _, wa⟩ := DataW.trod_int Try.underlying3 t1
    obtain ⟨v, e2, _, wv⟩ := DataW.trod_int Try.underlying3 t2
    have k : Try.prog.cellsOf 3 = 1 := by kernel_rfl
    simp [k] at e0 e1 e2
    have g0 := hcell 0 (by omega)
    have g1 := hcell 1 (by omega)
    have g2 := hcell 2 (by omega)
    rw [add_plain] at g0 g1 g2
    exact ⟨⟨s, a, v⟩, by simpa [e0] using g0, by simpa [e1] using g1, by simpa [e2] using g2, ⟨(i64_of wa).1, (i64_of wa).2, (i64_of wv).1, (i64_of wv).2⟩⟩

theorem block_lt {p : Addr} {v : Value} (h : W.cell? p = some v) : p.block < W.heap.size := by
  unfold World.cell? at h
  split at h
  · rename_i hh
    exact (Array.getElem?_eq_some_iff.1 hh).1
  · cases h

theorem open_evs_wf {base : Nat} {v0 : Value} {d0 : DataW H} {p0 : List MemPlace} (hv : Value.okWide Try.prog W .any base 24 v0) (h0 : DataW.Trod enc Try.prog W 0 (fun _ => true) true 24 v0 d0 p0) :
    ∃ a cap, ∃ l : List Ev, v0 = .slice a l.length cap ∧ Evs W a l ∧ ∀ e ∈ l, e.Wf := by
  obtain ⟨a, len, cap, rfl⟩ := okWide_slice Try.underlying24 hv
  obtain ⟨fuel, hf⟩ := h0
  rcases open_slice Try.underlying24 hf with ⟨hcs, _⟩ | ⟨a', len', cap', m, n, D, Pl, hcs, _, hl, hcap, hm, _, hx⟩
  · simp [Value.cells] at hcs
    obtain ⟨rfl, rfl, rfl⟩ := hcs
    exact ⟨none, 0, [], rfl, ⟨by simp, by simp⟩, by simp⟩
  · simp [Value.cells] at hcs
    obtain ⟨rfl, rfl, rfl⟩ := hcs
    have k3 : Try.prog.cellsOf 99 = 3 := by kernel_rfl
    simp only [if_true] at hm
    subst hm
    rw [k3] at hx
    by_cases h00 : len = 0
    · subst h00
      exact ⟨_, _, [], rfl, ⟨by simp, by simp⟩, by simp⟩
    obtain ⟨b, off, spot⟩ := a'
    have hspot : spot = none := by
      obtain ⟨cs', h1, h2⟩ := hx 0 (by omega)
      obtain ⟨_, hlen, hcell⟩ := World.cells?_some h1
      have := hcell 0 (by omega)
      rw [List.getElem?_eq_getElem (by omega)] at this
      simpa [Addr.add] using World.cell?_spot this
    subst hspot
    have inh : Inhabited Ev := ⟨⟨0, 0, 0⟩⟩
    obtain ⟨F, hF⟩ := choose_lt (α := Ev) (n := len) (p := fun i e => W.cell? ⟨b, off + i * 3, none⟩ = some (.int .i64 e.sym) ∧ W.cell? ⟨b, off + i * 3 + 1, none⟩ = some (.int .i64 e.at') ∧ W.cell? ⟨b, off + i * 3 + 2, none⟩ = some (.int .i64 e.val) ∧ e.Wf) (fun i hi => by
      obtain ⟨cs', h1, h2⟩ := hx i (by omega)
      rw [add_plain] at h1
      exact one_ev h1 h2)
    refine ⟨_, _, (List.range len).map F, by simp; rfl, ⟨by simp; omega, fun _ => ⟨b, off, rfl, block_lt (hF 0 (by omega)).1, fun i hi => ?_⟩⟩, ?_⟩
    · simp only [List.length_map, List.length_range] at hi
      have := hF i hi
      simpa using ⟨this.1, this.2.1, this.2.2.1⟩
    · intro e he
      simp only [List.mem_map, List.mem_range] at he
      obtain ⟨i, hi, rfl⟩ := he
      exact (hF i hi).2.2.2

theorem open_evs {base : Nat} {v0 : Value} {d0 : DataW H} {p0 : List MemPlace} (hv : Value.okWide Try.prog W .any base 24 v0) (h0 : DataW.Trod enc Try.prog W 0 (fun _ => true) true 24 v0 d0 p0) :
    ∃ a cap, ∃ l : List Ev, v0 = .slice a l.length cap ∧ Evs W a l := by
  obtain ⟨a, cap, l, h1, h2, _⟩ := open_evs_wf hv h0
  exact ⟨a, cap, l, h1, h2⟩
end
end Go.Proofs.Ythlddehmebgfoaa
