/- Rules, as plain data; where they lie in memory; rules that came in. -/
import Derived.Test.YthlddehmebgfoaaEx
import Derived.Test.YthlddehmebgfoaaBox
namespace Go.Proofs.Ythlddehmebgfoaa
open Go.ChangeShapes Go.WideShapes Go.ChangeAt Go.RowKit Go.Deep
set_option linter.unusedVariables false
set_option maxRecDepth 4000

/-- A rule: its name, how soon, how it is paired, what is looked for, for which numbers, to which key, how much, and what happens by it. -/
structure Ru where
  nm : ByteArray
  pri : Int
  mode : Int
  kd : Int
  sy : Int
  n : Int
  ks : Fo
  lo : Int
  hi : Int
  key : Int
  add : Int
  ra : Int
def ruC (x : Ru) (a : Option Addr) (c : Nat) : Array Value := #[.string x.nm, .int .i64 x.pri, .int .i64 x.mode, .int .i64 x.kd, .int .i64 x.sy, .int .i64 x.n, .slice a x.ks.len c, .int .i64 x.lo, .int .i64 x.hi, .int .i64 x.key, .int .i64 x.add, .int .i64 x.ra]
def ruV (x : Ru) (a : Option Addr) (c : Nat) : Value := .agg (ruC x a c)
/-- It can be read. -/
structure RuIn (w : World) (a : Option Addr) (x : Ru) : Prop where
  ks : Slc w a x.ks
  nm : x.nm.size ≤ maxLen
theorem RuIn.below {w w' : World} {a : Option Addr} {x : Ru} (h : RuIn w a x) (hb : Below w.heap.size w w') : RuIn w' a x := ⟨h.ks.below hb, h.nm⟩

/-- The twelve cells of one. -/
def Twelve (w : World) (b o : Nat) (x : Ru) (a : Option Addr) (c : Nat) : Prop :=
  w.cell? ⟨b, o, none⟩ = some (.string x.nm) ∧
  w.cell? ⟨b, o + 1, none⟩ = some (.int .i64 x.pri) ∧
  w.cell? ⟨b, o + 2, none⟩ = some (.int .i64 x.mode) ∧
  w.cell? ⟨b, o + 3, none⟩ = some (.int .i64 x.kd) ∧
  w.cell? ⟨b, o + 4, none⟩ = some (.int .i64 x.sy) ∧
  w.cell? ⟨b, o + 5, none⟩ = some (.int .i64 x.n) ∧
  w.cell? ⟨b, o + 6, none⟩ = some (.slice a x.ks.len c) ∧
  w.cell? ⟨b, o + 7, none⟩ = some (.int .i64 x.lo) ∧
  w.cell? ⟨b, o + 8, none⟩ = some (.int .i64 x.hi) ∧
  w.cell? ⟨b, o + 9, none⟩ = some (.int .i64 x.key) ∧
  w.cell? ⟨b, o + 10, none⟩ = some (.int .i64 x.add) ∧
  w.cell? ⟨b, o + 11, none⟩ = some (.int .i64 x.ra)
/-- From cell off on block b holds one. -/
def RuRd (w : World) (b off : Nat) (x : Ru) : Prop := ∃ a c, Twelve w b off x a c ∧ RuIn w a x
theorem Twelve.move {w w' : World} {b o : Nat} {x : Ru} {a : Option Addr} {c : Nat} (h : Twelve w b o x a c) (hc : ∀ q, o ≤ q → q < o + 12 → w'.cell? ⟨b, q, none⟩ = w.cell? ⟨b, q, none⟩) : Twelve w' b o x a c := by
  obtain ⟨h0, h1, h2, h3, h4, h5, h6, h7, h8, h9, h10, h11⟩ := h
  exact ⟨(hc _ (by omega) (by omega)).trans h0, (hc _ (by omega) (by omega)).trans h1, (hc _ (by omega) (by omega)).trans h2, (hc _ (by omega) (by omega)).trans h3, (hc _ (by omega) (by omega)).trans h4, (hc _ (by omega) (by omega)).trans h5, (hc _ (by omega) (by omega)).trans h6, (hc _ (by omega) (by omega)).trans h7, (hc _ (by omega) (by omega)).trans h8, (hc _ (by omega) (by omega)).trans h9, (hc _ (by omega) (by omega)).trans h10, (hc _ (by omega) (by omega)).trans h11⟩
/-- The slice whose address is a holds the rules l. -/
structure Rus (w : World) (a : Option Addr) (l : List Ru) : Prop where
  len : l.length ≤ maxLen
  cells : 0 < l.length → ∃ b off, a = some ⟨b, off, none⟩ ∧ b < w.heap.size ∧ ∀ i (h : i < l.length), RuRd w b (off + i * 12) l[i]
theorem RuRd.below {w w' : World} {b off : Nat} {x : Ru} (h : RuRd w b off x) (hlt : b < w.heap.size) (hb : Below w.heap.size w w') : RuRd w' b off x := by
  obtain ⟨a, c, ht, hi⟩ := h
  exact ⟨a, c, ht.move (fun q _ _ => hb.cell hlt), hi.below hb⟩
theorem Rus.below {w w' : World} {a : Option Addr} {l : List Ru} (h : Rus w a l) (hb : Below w.heap.size w w') : Rus w' a l := by
  refine ⟨h.len, fun hl => ?_⟩
  obtain ⟨b, off, ha, hlt, hc⟩ := h.cells hl
  exact ⟨b, off, ha, Nat.lt_of_lt_of_le hlt hb.size, fun i hi => (hc i hi).below hlt hb⟩
theorem Rus.nil (w : World) (a : Option Addr) : Rus w a [] := ⟨by simp, by simp⟩
/-- One of the list: what a round of a loop wants of it. -/
theorem Rus.at {w : World} {a : Option Addr} {l : List Ru} (h : Rus w a l) {k : Nat} (hk : k < l.length) :
    ∃ b off p c, a = some ⟨b, off, none⟩ ∧ b < w.heap.size ∧ Twelve w b (off + k * 12) l[k] p c ∧ RuIn w p l[k] := by
  obtain ⟨b, off, ha, hlt, hc⟩ := h.cells (by omega)
  obtain ⟨p, c, h1, h2⟩ := hc k hk
  exact ⟨b, off, p, c, ha, hlt, h1, h2⟩
theorem Bx.twelve {w : World} {A : Nat} {x : Ru} {a : Option Addr} {c : Nat} (h : Bx w A (ruC x a c)) : Twelve w A 0 x a c :=
  ⟨h.cell 0 rfl, h.cell 1 rfl, h.cell 2 rfl, h.cell 3 rfl, h.cell 4 rfl, h.cell 5 rfl, h.cell 6 rfl, h.cell 7 rfl, h.cell 8 rfl, h.cell 9 rfl, h.cell 10 rfl, h.cell 11 rfl⟩

section
variable {H : Type} {enc : TypeId × Value → H} {W : World}
theorem trod_struct9 {t : TypeId} {f0 f1 f2 f3 f4 f5 f6 f7 f8 : Field} {fuel : Nat} {cs : List Value} {x : DataW H × List MemPlace} (ht : Try.prog.underlying t = some (.struct #[f0, f1, f2, f3, f4, f5, f6, f7, f8])) (h : DataW.trod enc Try.prog W 0 (fun _ => true) true fuel t cs = some x) :
    ∃ n, ∀ f, f ∈ [f0, f1, f2, f3, f4, f5, f6, f7, f8] → ∃ y, DataW.trod enc Try.prog W 0 (fun _ => true) true n f.type ((cs.drop f.offset).take (Try.prog.cellsOf f.type)) = some y := by
  obtain ⟨xs, n, _, rfl, hl, hlen, hf⟩ := DataW.trod_struct ht h
  match xs, hlen with
  | [y0, y1, y2, y3, y4, y5, y6, y7, y8], _ =>
    refine ⟨n, fun f hm => ?_⟩
    simp at hm
    rcases hm with rfl | rfl | rfl | rfl | rfl | rfl | rfl | rfl | rfl
    · exact ⟨y0, by simpa using hf 0 _ rfl⟩
    · exact ⟨y1, by simpa using hf 1 _ rfl⟩
    · exact ⟨y2, by simpa using hf 2 _ rfl⟩
    · exact ⟨y3, by simpa using hf 3 _ rfl⟩
    · exact ⟨y4, by simpa using hf 4 _ rfl⟩
    · exact ⟨y5, by simpa using hf 5 _ rfl⟩
    · exact ⟨y6, by simpa using hf 6 _ rfl⟩
    · exact ⟨y7, by simpa using hf 7 _ rfl⟩
    · exact ⟨y8, by simpa using hf 8 _ rfl⟩

theorem one_ex {m : Nat} {c0 c1 c2 c3 : Value} {y : DataW H × List MemPlace} (h : DataW.trod enc Try.prog W 0 (fun _ => true) true m 68 [c0, c1, c2, c3] = some y) :
    ∃ (kd sy n : Int) (a : Option Addr) (cap : Nat) (F : Fo), c0 = .int .i64 kd ∧ c1 = .int .i64 sy ∧ c2 = .int .i64 n ∧ c3 = .slice a F.len cap ∧ Slc W a F := by
  have k1 : Try.prog.cellsOf 3 = 1 := by kernel_rfl
  have ks : Try.prog.cellsOf 66 = 1 := by kernel_rfl
  obtain ⟨y0, y1, y2, y3, n, _, _, t0, t1, t2, t3⟩ := Go.Joins.trod_struct4 Try.underlying68 h
  obtain ⟨s0, e0, _, _⟩ := DataW.trod_int Try.underlying3 t0
  obtain ⟨s1, e1, _, _⟩ := DataW.trod_int Try.underlying3 t1
  obtain ⟨s2, e2, _, _⟩ := DataW.trod_int Try.underlying3 t2
  obtain ⟨a', cap', kids, e3, hk⟩ := open_exs n _ _ t3
  simp [k1, ks] at e0 e1 e2 e3
  exact ⟨s0, s1, s2, a', cap', kids, e0, e1, e2, e3, hk⟩

theorem one_ru {n : Nat} {cs : List Value} {y : DataW H × List MemPlace} (hc : cs.length = 12) (h2 : DataW.trod enc Try.prog W 0 (fun _ => true) true n 70 cs = some y) :
    ∃ (x : Ru) (a : Option Addr) (c : Nat), cs = (ruC x a c).toList ∧ RuIn W a x := by
  match cs, hc with
  | [c0, c1, c2, c3, c4, c5, c6, c7, c8, c9, c10, c11], _ =>
    obtain ⟨m, hm⟩ := trod_struct9 Try.underlying70 h2
    have k1 : Try.prog.cellsOf 3 = 1 := by kernel_rfl
    have kt : Try.prog.cellsOf 9 = 1 := by kernel_rfl
    have kx : Try.prog.cellsOf 68 = 4 := by kernel_rfl
    obtain ⟨_, t0⟩ := hm _ (List.mem_cons_self)
    obtain ⟨_, t1⟩ := hm _ (List.mem_cons_of_mem _ (List.mem_cons_self))
    obtain ⟨_, t2⟩ := hm _ (List.mem_cons_of_mem _ (List.mem_cons_of_mem _ (List.mem_cons_self)))
    obtain ⟨_, t3⟩ := hm _ (List.mem_cons_of_mem _ (List.mem_cons_of_mem _ (List.mem_cons_of_mem _ (List.mem_cons_self))))
    obtain ⟨_, t4⟩ := hm _ (List.mem_cons_of_mem _ (List.mem_cons_of_mem _ (List.mem_cons_of_mem _ (List.mem_cons_of_mem _ (List.mem_cons_self)))))
    obtain ⟨_, t5⟩ := hm _ (List.mem_cons_of_mem _ (List.mem_cons_of_mem _ (List.mem_cons_of_mem _ (List.mem_cons_of_mem _ (List.mem_cons_of_mem _ (List.mem_cons_self))))))
    obtain ⟨_, t6⟩ := hm _ (List.mem_cons_of_mem _ (List.mem_cons_of_mem _ (List.mem_cons_of_mem _ (List.mem_cons_of_mem _ (List.mem_cons_of_mem _ (List.mem_cons_of_mem _ (List.mem_cons_self)))))))
    obtain ⟨_, t7⟩ := hm _ (List.mem_cons_of_mem _ (List.mem_cons_of_mem _ (List.mem_cons_of_mem _ (List.mem_cons_of_mem _ (List.mem_cons_of_mem _ (List.mem_cons_of_mem _ (List.mem_cons_of_mem _ (List.mem_cons_self))))))))
    obtain ⟨_, t8⟩ := hm _ (List.mem_cons_of_mem _ (List.mem_cons_of_mem _ (List.mem_cons_of_mem _ (List.mem_cons_of_mem _ (List.mem_cons_of_mem _ (List.mem_cons_of_mem _ (List.mem_cons_of_mem _ (List.mem_cons_of_mem _ (List.mem_cons_self)))))))))
    simp only [k1, kt, kx] at t0 t1 t2 t3 t4 t5 t6 t7 t8
    simp at t0 t1 t2 t3 t4 t5 t6 t7 t8
    obtain ⟨s, e0, _, hs⟩ := DataW.trod_string Try.underlying9 t0
    obtain ⟨n1, e1, _, _⟩ := DataW.trod_int Try.underlying3 t1
    obtain ⟨n2, e2, _, _⟩ := DataW.trod_int Try.underlying3 t2
    obtain ⟨kd, sy, nn, a, cap, F, rfl, rfl, rfl, rfl, hF⟩ := one_ex t3
    obtain ⟨n4, e4, _, _⟩ := DataW.trod_int Try.underlying3 t4
    obtain ⟨n5, e5, _, _⟩ := DataW.trod_int Try.underlying3 t5
    obtain ⟨n6, e6, _, _⟩ := DataW.trod_int Try.underlying3 t6
    obtain ⟨n7, e7, _, _⟩ := DataW.trod_int Try.underlying3 t7
    obtain ⟨n8, e8, _, _⟩ := DataW.trod_int Try.underlying3 t8
    simp at e0 e1 e2 e4 e5 e6 e7 e8
    subst e0 e1 e2 e4 e5 e6 e7 e8
    exact ⟨⟨s, n1, n2, kd, sy, nn, F, n4, n5, n6, n7, n8⟩, a, cap, rfl, ⟨hF, hs⟩⟩

theorem open_rus_trod {fuel : Nat} {cs : List Value} {x : DataW H × List MemPlace} (h : DataW.trod enc Try.prog W 0 (fun _ => true) true fuel 22 cs = some x) :
    ∃ a cap, ∃ l : List Ru, cs = [.slice a l.length cap] ∧ Rus W a l := by
  rcases DataW.trod_slice Try.underlying22 h with ⟨rfl, _⟩ | ⟨a, len, cap, elems, rest, n, rfl, rfl, _, hb, hl, hm, hlen, hel, _, _⟩
  · exact ⟨none, 0, [], rfl, Rus.nil _ _⟩
  · have k3 : Try.prog.cellsOf 70 = 12 := by kernel_rfl
    rw [k3] at hel
    by_cases h00 : len = 0
    · subst h00
      exact ⟨_, cap, [], rfl, Rus.nil _ _⟩
    obtain ⟨b, off, spot⟩ := a
    have one : ∀ i, i < len → ∃ cs' y, W.cells? 0 (Addr.add ⟨b, off, spot⟩ (i * 12)) 12 = some cs' ∧ DataW.trod enc Try.prog W 0 (fun _ => true) true n 70 cs' = some y := by
      intro i hi
      have := hel i hi
      rw [List.getElem?_eq_getElem (by omega)] at this
      exact Option.bind_eq_some_iff.1 this |>.elim fun cs' hc => ⟨cs', _, hc.1, hc.2⟩
    have hspot : spot = none := by
      obtain ⟨cs', y, h1, h2⟩ := one 0 (by omega)
      obtain ⟨_, hlen, hcell⟩ := World.cells?_some h1
      have := hcell 0 (by omega)
      rw [List.getElem?_eq_getElem (by omega)] at this
      simpa [Addr.add] using World.cell?_spot this
    subst hspot
    have inh : Inhabited Ru := ⟨⟨ByteArray.empty, 0, 0, 0, 0, 0, .nil, 0, 0, 0, 0, 0⟩⟩
    obtain ⟨F, hF⟩ := choose_lt (α := Ru) (n := len) (p := fun i e => RuRd W b (off + i * 12) e) (fun i hi => by
      obtain ⟨cs', y, h1, h2⟩ := one i hi
      rw [add_plain] at h1
      obtain ⟨_, hlen, hcell⟩ := World.cells?_some h1
      obtain ⟨x, a, c, rfl, hin⟩ := one_ru hlen h2
      have g : ∀ (j : Nat) (v : Value), j < 12 → (ruC x a c)[j]? = some v → W.cell? ⟨b, off + i * 12 + j, none⟩ = some v := fun j v hj' hj => by
        have := hcell j hj'
        rw [add_plain] at this
        simp only [Array.getElem?_toList] at this
        exact this.trans hj
      exact ⟨x, a, c, ⟨g 0 _ (by omega) rfl, g 1 _ (by omega) rfl, g 2 _ (by omega) rfl, g 3 _ (by omega) rfl, g 4 _ (by omega) rfl, g 5 _ (by omega) rfl, g 6 _ (by omega) rfl, g 7 _ (by omega) rfl, g 8 _ (by omega) rfl, g 9 _ (by omega) rfl, g 10 _ (by omega) rfl, g 11 _ (by omega) rfl⟩, hin⟩)
    refine ⟨_, cap, (List.range len).map F, by simp, ⟨by simp; omega, fun _ => ⟨b, off, rfl, ?_, fun i hi => ?_⟩⟩⟩
    · obtain ⟨p, c, hc, _⟩ := hF 0 (by omega)
      exact block_lt hc.1
    · simp only [List.length_map, List.length_range] at hi
      simpa using hF i hi

theorem open_rule {base : Nat} {v0 : Value} {d0 : DataW H} {p0 : List MemPlace} (hv : Value.okWide Try.prog W .any base 70 v0) (h0 : DataW.Trod enc Try.prog W 0 (fun _ => true) true 70 v0 d0 p0) :
    ∃ (x : Ru) (a : Option Addr) (c : Nat), v0 = ruV x a c ∧ RuIn W a x := by
  have k3 : Try.prog.cellsOf 70 = 12 := by kernel_rfl
  obtain ⟨cs, rfl, hsz⟩ := okWide_struct Try.underlying70 hv
  rw [k3] at hsz
  obtain ⟨fuel, hf⟩ := h0
  obtain ⟨cl⟩ := cs
  obtain ⟨x, a, c, e, hi⟩ := one_ru (cs := cl) (by simpa using hsz) (by simpa [Value.cells] using hf)
  exact ⟨x, a, c, by rw [e]; rfl, hi⟩
theorem open_rules {base : Nat} {v0 : Value} {d0 : DataW H} {p0 : List MemPlace} (hv : Value.okWide Try.prog W .any base 22 v0) (h0 : DataW.Trod enc Try.prog W 0 (fun _ => true) true 22 v0 d0 p0) :
    ∃ a cap, ∃ l : List Ru, v0 = .slice a l.length cap ∧ Rus W a l := by
  obtain ⟨a, len, cap, rfl⟩ := okWide_slice Try.underlying22 hv
  obtain ⟨fuel, hf⟩ := h0
  obtain ⟨a', cap', l, e, hl⟩ := open_rus_trod hf
  simp [Value.cells] at e
  obtain ⟨rfl, rfl, rfl⟩ := e
  exact ⟨_, _, l, rfl, hl⟩
end
end Go.Proofs.Ythlddehmebgfoaa
