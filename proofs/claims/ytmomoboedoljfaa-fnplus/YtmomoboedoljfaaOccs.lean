/- Lists of places: the laws' helpers. -/
import Derived.Test.YtmomoboedoljfaaOccBox
import Derived.Laws.MakeOwn
namespace Go.Proofs.Ytmomoboedoljfaa
open Go.ChangeShapes Go.WideShapes Go.ChangeAt Go.RowKit
set_option linter.unusedVariables false
set_option maxRecDepth 4000

/-- How many numbers they hold together. -/
def idsTotal : List Occ → Nat
  | [] => 0
  | o :: r => o.ids.length + idsTotal r
theorem idsTotal_step {l : List Occ} {k : Nat} (h : k < l.length) : idsTotal (l.drop k) = l[k].ids.length + idsTotal (l.drop (k + 1)) := by rw [List.drop_eq_getElem_cons h]; rfl
theorem idsTotal_end {l : List Occ} {k : Nat} (h : ¬ k < l.length) : idsTotal (l.drop k) = 0 := by rw [List.drop_eq_nil_of_le (by omega)]; rfl
theorem idsTotal_get : ∀ {l : List Occ} {k : Nat} (h : k < l.length), l[k].ids.length ≤ idsTotal l
  | o :: r, 0, _ => by simp [idsTotal]
  | o :: r, k + 1, h => by have := idsTotal_get (l := r) (k := k) (by simpa using h); simp [idsTotal]; omega
def occsSize (l : List Occ) : Nat := l.length + idsTotal l

/-- One of the list: what a round of a loop wants of it. -/
theorem Occs.at {w : World} {a : Option Addr} {l : List Occ} (h : Occs w a l) {k : Nat} (hk : k < l.length) :
    ∃ b off a' cap', a = some ⟨b, off, none⟩ ∧ b < w.heap.size ∧ w.cell? ⟨b, off + k * 3, none⟩ = some (.int .i64 l[k].fr) ∧ w.cell? ⟨b, off + k * 3 + 1, none⟩ = some (.int .i64 l[k].tl) ∧
      w.cell? ⟨b, off + k * 3 + 2, none⟩ = some (.slice a' l[k].ids.length cap') ∧ Ints w a' l[k].ids := by
  obtain ⟨b, off, ha, hlt, hc⟩ := h.cells (by omega)
  obtain ⟨h1, h2, a', cap', h3, h4⟩ := hc k hk
  exact ⟨b, off, a', cap', ha, hlt, h1, h2, h3, h4⟩

/-- From cell off on block b holds one, its numbers in a row of their own: the block x.2. -/
def OneOwn (w : World) (B b off : Nat) (x : Occ × Nat) : Prop :=
  w.cell? ⟨b, off, none⟩ = some (.int .i64 x.1.fr) ∧ w.cell? ⟨b, off + 1, none⟩ = some (.int .i64 x.1.tl) ∧ ∃ a cap, w.cell? ⟨b, off + 2, none⟩ = some (.slice a x.1.ids.length cap) ∧ x.1.ids.length ≤ maxLen ∧
    (0 < x.1.ids.length → a = some ⟨x.2, 0, none⟩ ∧ x.2 ≠ b ∧ B ≤ x.2 ∧ x.2 < w.heap.size ∧ IntRow w x.2 x.1.ids)
/-- Two whose numbers, if there are any, lie in two rows. -/
def Apart (x y : Occ × Nat) : Prop := 0 < x.1.ids.length → 0 < y.1.ids.length → x.2 ≠ y.2
/-- Block b is a row of its own that holds the first places L, the numbers of each in a row of their own; all are from B on. -/
structure OccRow (w : World) (B b : Nat) (L : List (Occ × Nat)) : Prop where
  blk : ∃ c t, w.heap[b]? = some (.cells c t (0, 0)) ∧ L.length * 3 ≤ c.size
  ge : B ≤ b
  one : ∀ i (h : i < L.length), OneOwn w B b (i * 3) L[i]
  apart : L.Pairwise Apart
  len : L.length ≤ maxLen

theorem OneOwn.frame {w w' : World} {B b off : Nat} {x : Occ × Nat} (h : OneOwn w B b off x) (hc : ∀ o, off ≤ o → o < off + 3 → w'.cell? ⟨b, o, none⟩ = w.cell? ⟨b, o, none⟩)
    (hx : 0 < x.1.ids.length → w'.heap[x.2]? = w.heap[x.2]?) (hs : w.heap.size ≤ w'.heap.size) : OneOwn w' B b off x := by
  obtain ⟨h1, h2, a, cap, h3, h4, h5⟩ := h
  refine ⟨(hc _ (by omega) (by omega)).trans h1, (hc _ (by omega) (by omega)).trans h2, a, cap, (hc _ (by omega) (by omega)).trans h3, h4, fun hp => ?_⟩
  obtain ⟨g1, g2, g3, g4, g5⟩ := h5 hp
  exact ⟨g1, g2, g3, by omega, g5.of_block (hx hp)⟩
theorem OneOwn.low {w : World} {B B' b off : Nat} {x : Occ × Nat} (h : OneOwn w B b off x) (hB : B' ≤ B) : OneOwn w B' b off x := by
  obtain ⟨h1, h2, a, cap, h3, h4, h5⟩ := h
  refine ⟨h1, h2, a, cap, h3, h4, fun hp => ?_⟩
  obtain ⟨g1, g2, g3, g4, g5⟩ := h5 hp
  exact ⟨g1, g2, by omega, g4, g5⟩
theorem OneOwn.rd {w : World} {B b off : Nat} {x : Occ × Nat} (h : OneOwn w B b off x) : OneRd w b off x.1 := by
  obtain ⟨h1, h2, a, cap, h3, h4, h5⟩ := h
  refine ⟨h1, h2, a, cap, h3, ⟨h4, fun hp => ?_⟩⟩
  obtain ⟨g1, g2, g3, g4, g5⟩ := h5 hp
  obtain ⟨b', off', e, q⟩ := (g5.ints h4).cells hp
  exact ⟨b', off', by rw [g1, e], q⟩
theorem OccRow.lt {w : World} {B b : Nat} {L : List (Occ × Nat)} (h : OccRow w B b L) : b < w.heap.size := by
  obtain ⟨c, t, hb, _⟩ := h.blk
  exact (Array.getElem?_eq_some_iff.1 hb).1
theorem OccRow.occs {w : World} {B b : Nat} {L : List (Occ × Nat)} (h : OccRow w B b L) : Occs w (some ⟨b, 0, none⟩) (L.map (·.1)) := by
  refine ⟨by simpa using h.len, fun _ => ⟨b, 0, rfl, h.lt, fun i hi => ?_⟩⟩
  simp only [List.length_map] at hi
  have := (h.one i hi).rd
  simpa using this
theorem OccRow.below {w w' : World} {B b : Nat} {L : List (Occ × Nat)} (h : OccRow w B b L) (hb : Below w.heap.size w w') : OccRow w' B b L := by
  have hl := h.lt
  obtain ⟨c, t, hc, hs⟩ := h.blk
  refine ⟨⟨c, t, (hb.block b hl).trans hc, hs⟩, h.ge, fun i hi => ?_, h.apart, h.len⟩
  have := h.one i hi
  refine this.frame (fun o _ _ => hb.cell hl) (fun hp => ?_) hb.size
  obtain ⟨_, _, a, cap, _, _, h5⟩ := this
  exact hb.block _ (h5 hp).2.2.2.1
theorem OccRow.low {w : World} {B B' b : Nat} {L : List (Occ × Nat)} (h : OccRow w B b L) (hB : B' ≤ B) : OccRow w B' b L :=
  ⟨h.blk, Nat.le_trans hB h.ge, fun i hi => (h.one i hi).low hB, h.apart, h.len⟩

theorem info_occ : (Try.prog.info? 32).map (fun i => (i.zero, i.size, i.bytes)) = some (some (.agg #[.int .i64 0, .int .i64 0, .slice none 0 0]), 3, 40) := by kernel_rfl
def zerosOcc (n : Nat) : Array Value := madeCells #[.int .i64 0, .int .i64 0, .slice none 0 0] (n * 3)
theorem make_occs (n : Nat) (hn : n ≤ 1048576) (w : World) :
    (Instr.makeSlice 23 (.int .i64 n) (.int .i64 n)).run Try.prog w = .ok (.slice (some ⟨w.heap.size, 0, none⟩) n n) (w.alloc (.cells (zerosOcc n) 32)) := by
  have hi := info_occ
  cases h : Try.prog.info? 32 with
  | none => rw [h] at hi; simp at hi
  | some i =>
    rw [h] at hi
    simp at hi
    obtain ⟨h1, h2, h3⟩ := hi
    have := run_make (P := Try.prog) w 23 32 i (.agg #[.int .i64 0, .int .i64 0, .slice none 0 0]) Try.underlying23 h h1 .i64 .i64 n n (by omega) (by omega) (by rw [h3]; omega) (by omega)
    rw [this, h2]
    rfl

theorem fill3 {w : World} {b j : Nat} {c : Array Value} {t : TypeId} (hb : w.heap[b]? = some (.cells c t (0, 0))) (hj : j + 3 ≤ c.size) (v0 v1 v2 : Value) {w' : World}
    (e : w' = ((w.setCell ⟨b, j, none⟩ v0).setCell ⟨b, j + 1, none⟩ v1).setCell ⟨b, j + 2, none⟩ v2) :
    (∃ c', w'.heap[b]? = some (.cells c' t (0, 0)) ∧ c'.size = c.size) ∧ w'.cell? ⟨b, j, none⟩ = some v0 ∧ w'.cell? ⟨b, j + 1, none⟩ = some v1 ∧ w'.cell? ⟨b, j + 2, none⟩ = some v2 ∧
    (∀ o, o < j ∨ j + 3 ≤ o → w'.cell? ⟨b, o, none⟩ = w.cell? ⟨b, o, none⟩) ∧ (∀ x, x ≠ b → w'.heap[x]? = w.heap[x]?) ∧ w'.heap.size = w.heap.size := by
  have h3 : w'.heap[b]? = some (.cells (((c.setIfInBounds j v0).setIfInBounds (j + 1) v1).setIfInBounds (j + 2) v2) t (0, 0)) := by
    rw [e]; exact heap_setCell_same _ _ _ _ _ _ (heap_setCell_same _ _ _ _ _ _ (heap_setCell_same _ _ _ _ _ _ hb))
  refine ⟨⟨_, h3, by simp⟩, ?_, ?_, ?_, ?_, ?_, by rw [e]; simp⟩
  · simp only [oCell h3, Array.getElem?_setIfInBounds, Array.size_setIfInBounds]
    rw [if_neg (by omega), if_neg (by omega), if_pos trivial, if_pos (by omega)]
  · simp only [oCell h3, Array.getElem?_setIfInBounds, Array.size_setIfInBounds]
    rw [if_neg (by omega), if_pos trivial, if_pos (by omega)]
  · simp only [oCell h3, Array.getElem?_setIfInBounds, Array.size_setIfInBounds]
    rw [if_pos trivial, if_pos (by omega)]
  · intro o ho
    simp only [oCell h3, oCell hb, Array.getElem?_setIfInBounds, Array.size_setIfInBounds]
    rw [if_neg (by omega), if_neg (by omega), if_neg (by omega)]
  · intro x hx
    rw [e]
    rw [Below.heap_setCell _ _ _ _ (fun e => hx e), Below.heap_setCell _ _ _ _ (fun e => hx e), Below.heap_setCell _ _ _ _ (fun e => hx e)]

/-- What the copy of a list hands back: a row of its own. -/
def CopyOs (w : World) (l : List Occ) (e : Ending) (w' : World) : Prop :=
  ∃ L : List (Occ × Nat), e = .returned (.slice (some ⟨w.heap.size, 0, none⟩) l.length l.length) ∧ L.map (·.1) = l ∧ OccRow w' w.heap.size w.heap.size L ∧ Below w.heap.size w w'

end Go.Proofs.Ytmomoboedoljfaa
