/- Rules, as plain data; where they lie in memory; rules that came in. -/
import Derived.Test.YtohijenlcfkliaaDoorEx
import Derived.Test.YtohijenlcfkliaaDoorBox
namespace Go.Proofs.YtohijenlcfkliaaDoor
open Go.ChangeShapes Go.WideShapes Go.ChangeAt Go.RowKit Go.Deep
set_option linter.unusedVariables false
set_option maxRecDepth 4000

/-- A rule: its name, how soon, how it is paired, what is looked for, for which numbers, to which key, how much, and what happens by it. -/
structure Ru where
  nm : ByteArray
  pri : Int
  mode : Int
  kd : Int
  sy : Int
  n : Int
  ks : Fo
  lo : Int
  hi : Int
  key : Int
  add : Int
  ra : Int
def ruC (x : Ru) (a : Option Addr) (c : Nat) : Array Value := #[.string x.nm, .int .i64 x.pri, .int .i64 x.mode, .int .i64 x.kd, .int .i64 x.sy, .int .i64 x.n, .slice a x.ks.len c, .int .i64 x.lo, .int .i64 x.hi, .int .i64 x.key, .int .i64 x.add, .int .i64 x.ra]
def ruV (x : Ru) (a : Option Addr) (c : Nat) : Value := .agg (ruC x a c)
/-- It can be read. -/
structure RuIn (w : World) (a : Option Addr) (x : Ru) : Prop where
  ks : Slc w a x.ks
  nm : x.nm.size ≤ maxLen
theorem RuIn.below {w w' : World} {a : Option Addr} {x : Ru} (h : RuIn w a x) (hb : Below w.heap.size w w') : RuIn w' a x := ⟨h.ks.below hb, h.nm⟩

/-- The twelve cells of one. -/
def Twelve (w : World) (b o : Nat) (x : Ru) (a : Option Addr) (c : Nat) : Prop :=
  w.cell? ⟨b, o, none⟩ = some (.string x.nm) ∧
  w.cell? ⟨b, o + 1, none⟩ = some (.int .i64 x.pri) ∧
  w.cell? ⟨b, o + 2, none⟩ = some (.int .i64 x.mode) ∧
  w.cell? ⟨b, o + 3, none⟩ = some (.int .i64 x.kd) ∧
  w.cell? ⟨b, o + 4, none⟩ = some (.int .i64 x.sy) ∧
  w.cell? ⟨b, o + 5, none⟩ = some (.int .i64 x.n) ∧
  w.cell? ⟨b, o + 6, none⟩ = some (.slice a x.ks.len c) ∧
  w.cell? ⟨b, o + 7, none⟩ = some (.int .i64 x.lo) ∧
  w.cell? ⟨b, o + 8, none⟩ = some (.int .i64 x.hi) ∧
  w.cell? ⟨b, o + 9, none⟩ = some (.int .i64 x.key) ∧
  w.cell? ⟨b, o + 10, none⟩ = some (.int .i64 x.add) ∧
  w.cell? ⟨b, o + 11, none⟩ = some (.int .i64 x.ra)
/-- From cell off on block b holds one. -/
def RuRd (w : World) (b off : Nat) (x : Ru) : Prop := ∃ a c, Twelve w b off x a c ∧ RuIn w a x
theorem Twelve.move {w w' : World} {b o : Nat} {x : Ru} {a : Option Addr} {c : Nat} (h : Twelve w b o x a c) (hc : ∀ q, o ≤ q → q < o + 12 → w'.cell? ⟨b, q, none⟩ = w.cell? ⟨b, q, none⟩) : Twelve w' b o x a c := by
  obtain ⟨h0, h1, h2, h3, h4, h5, h6, h7, h8, h9, h10, h11⟩ := h
  exact ⟨(hc _ (by omega) (by omega)).trans h0, (hc _ (by omega) (by omega)).trans h1, (hc _ (by omega) (by omega)).trans h2, (hc _ (by omega) (by omega)).trans h3, (hc _ (by omega) (by omega)).trans h4, (hc _ (by omega) (by omega)).trans h5, (hc _ (by omega) (by omega)).trans h6, (hc _ (by omega) (by omega)).trans h7, (hc _ (by omega) (by omega)).trans h8, (hc _ (by omega) (by omega)).trans h9, (hc _ (by omega) (by omega)).trans h10, (hc _ (by omega) (by omega)).trans h11⟩
/-- The slice whose address is a holds the rules l. -/
structure Rus (w : World) (a : Option Addr) (l : List Ru) : Prop where
  len : l.length ≤ maxLen
  cells : 0 < l.length → ∃ b off, a = some ⟨b, off, none⟩ ∧ b < w.heap.size ∧ ∀ i (h : i < l.length), RuRd w b (off + i * 12) l[i]
theorem RuRd.below {w w' : World} {b off : Nat} {x : Ru} (h : RuRd w b off x) (hlt : b < w.heap.size) (hb : Below w.heap.size w w') : RuRd w' b off x := by
  obtain ⟨a, c, ht, hi⟩ := h
  exact ⟨a, c, ht.move (fun q _ _ => hb.cell hlt), hi.below hb⟩
theorem Rus.below {w w' : World} {a : Option Addr} {l : List Ru} (h : Rus w a l) (hb : Below w.heap.size w w') : Rus w' a l := by
  refine ⟨h.len, fun hl => ?_⟩
  obtain ⟨b, off, ha, hlt, hc⟩ := h.cells hl
  exact ⟨b, off, ha, Nat.lt_of_lt_of_le hlt hb.size, fun i hi => (hc i hi).below hlt hb⟩
theorem Rus.nil (w : World) (a : Option Addr) : Rus w a [] := ⟨by simp, by simp⟩
/-- One of the list: what a round of a loop wants of it. -/
theorem Rus.at {w : World} {a : Option Addr} {l : List Ru} (h : Rus w a l) {k : Nat} (hk : k < l.length) :
    ∃ b off p c, a = some ⟨b, off, none⟩ ∧ b < w.heap.size ∧ Twelve w b (off + k * 12) l[k] p c ∧ RuIn w p l[k] := by
  obtain ⟨b, off, ha, hlt, hc⟩ := h.cells (by omega)
  obtain ⟨p, c, h1, h2⟩ := hc k hk
  exact ⟨b, off, p, c, ha, hlt, h1, h2⟩
theorem Bx.twelve {w : World} {A : Nat} {x : Ru} {a : Option Addr} {c : Nat} (h : Bx w A (ruC x a c)) : Twelve w A 0 x a c :=
  ⟨h.cell 0 rfl, h.cell 1 rfl, h.cell 2 rfl, h.cell 3 rfl, h.cell 4 rfl, h.cell 5 rfl, h.cell 6 rfl, h.cell 7 rfl, h.cell 8 rfl, h.cell 9 rfl, h.cell 10 rfl, h.cell 11 rfl⟩

section
variable {H : Type} {enc : TypeId × Value → H} {W : World}
theorem trod_struct9 {t : TypeId} {f0 f1 f2 f3 f4 f5 f6 f7 f8 : Field} {fuel : Nat} {cs : List Value} {x : DataW H × List MemPlace} (ht : Tryd.prog.underlying t = some (.struct #[f0, f1, f2, f3, f4, f5, f6, f7, f8])) (h : DataW.trod enc Tryd.prog W 0 (fun _ => true) true fuel t cs = some x) :
    ∃ n, ∀ f, f ∈ [f0, f1, f2, f3, f4, f5, f6, f7, f8] → ∃ y, DataW.trod enc Tryd.prog W 0 (fun _ => true) true n f.type ((cs.drop f.offset).take (Tryd.prog.cellsOf f.type)) = some y := by
  obtain ⟨xs, n, _, rfl, hl, hlen, hf⟩ := DataW.trod_struct ht h
  match xs, hlen with
  | [y0, y1, y2, y3, y4, y5, y6, y7, y8], _ =>
    refine ⟨n, fun f hm => ?_⟩
    simp at hm
    rcases hm with rfl | rfl | rfl | rfl | rfl | rfl | rfl | rfl | rfl
    · exact ⟨y0, by simpa using hf 0 _ rfl⟩
    · exact ⟨y1, by simpa using hf 1 _ rfl⟩
    · exact ⟨y2, by simpa using hf 2 _ rfl⟩
    · exact ⟨y3, by simpa using hf 3 _ rfl⟩
    · exact ⟨y4, by simpa using hf 4 _ rfl⟩
    · exact ⟨y5, by simpa using hf 5 _ rfl⟩
    · exact ⟨y6, by simpa using hf 6 _ rfl⟩
    · exact ⟨y7, by simpa using hf 7 _ rfl⟩
    · exact ⟨y8, by simpa using hf 8 _ rfl⟩

end
end Go.Proofs.YtohijenlcfkliaaDoor
