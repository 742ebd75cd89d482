/- Lists of rules are copied by the laws: rows of the call's own. -/
import Derived.Test.YtohijenlcfkliaaDoorRu2
namespace Go.Proofs.YtohijenlcfkliaaDoor
open Go.ChangeShapes Go.WideShapes Go.ChangeAt Go.RowKit Go.Deep
set_option linter.unusedVariables false
set_option maxRecDepth 4000

theorem info_rule : (Tryd.prog.info? 36).map (fun i => (i.zero, i.size, i.bytes)) = some (some (.agg #[.string { data := #[] }, .int .i64 0, .int .i64 0, .int .i64 0, .int .i64 0, .int .i64 0, .slice none 0 0, .int .i64 0, .int .i64 0, .int .i64 0, .int .i64 0, .int .i64 0]), 12, 120) := by kernel_rfl
def zerosRule (n : Nat) : Array Value := madeCells #[.string { data := #[] }, .int .i64 0, .int .i64 0, .int .i64 0, .int .i64 0, .int .i64 0, .slice none 0 0, .int .i64 0, .int .i64 0, .int .i64 0, .int .i64 0, .int .i64 0] (n * 12)
theorem make_rules (n : Nat) (hn : n ≤ 1048576) (w : World) :
    (Instr.makeSlice 23 (.int .i64 n) (.int .i64 n)).run Tryd.prog w = .ok (.slice (some ⟨w.heap.size, 0, none⟩) n n) (w.alloc (.cells (zerosRule n) 36)) := by
  have hi := info_rule
  cases h : Tryd.prog.info? 36 with
  | none => rw [h] at hi; simp at hi
  | some i =>
    rw [h] at hi
    simp at hi
    obtain ⟨h1, h2, h3⟩ := hi
    have := run_make (P := Tryd.prog) w 23 36 i (.agg #[.string { data := #[] }, .int .i64 0, .int .i64 0, .int .i64 0, .int .i64 0, .int .i64 0, .slice none 0 0, .int .i64 0, .int .i64 0, .int .i64 0, .int .i64 0, .int .i64 0]) Tryd.underlying23 h h1 .i64 .i64 n n (by omega) (by omega) (by rw [h3]; omega) (by omega)
    rw [this, h2]
    rfl

/-- From cell off on block b holds one; what is looked for lies in rows of the call's own, from lo on and ahead of hi. -/
def RuHas (w : World) (lo hi b off : Nat) (x : Ru) : Prop := ∃ d S, Twelve w b off x (some ⟨d, 0, none⟩) x.ks.len ∧ RowOwn w lo d S x.ks ∧ (∀ y ∈ d :: S, y < hi) ∧ x.nm.size ≤ maxLen
theorem RuHas.move {w w' : World} {lo hi b off : Nat} {x : Ru} (h : RuHas w lo hi b off x) (hc : ∀ o, off ≤ o → o < off + 12 → w'.cell? ⟨b, o, none⟩ = w.cell? ⟨b, o, none⟩) (hk : ∀ y, lo ≤ y → y < hi → w'.heap[y]? = w.heap[y]?) : RuHas w' lo hi b off x := by
  obtain ⟨d, S, ht, ho, hh, hn⟩ := h
  exact ⟨d, S, ht.move hc, ho.of_blocks (fun y hy => hk y (ho.ge y hy) (hh y hy)), hh, hn⟩
theorem RuHas.rd {w : World} {lo hi b off : Nat} {x : Ru} (h : RuHas w lo hi b off x) : RuRd w b off x := by
  obtain ⟨d, S, ht, ho, hh, hn⟩ := h
  exact ⟨_, _, ht, ⟨ho.slc, hn⟩⟩
/-- A row of rules, all in memory of the call's own from B on. -/
structure RusHas (w : World) (B b : Nat) (l : List Ru) : Prop where
  blk : ∃ c t, w.heap[b]? = some (.cells c t (0, 0)) ∧ c.size = l.length * 12
  ge : B ≤ b
  len : l.length ≤ maxLen
  one : ∃ M : Nat → Nat, b < M 0 ∧ M l.length ≤ w.heap.size ∧ (∀ i, i < l.length → M i ≤ M (i + 1)) ∧ ∀ i (h : i < l.length), RuHas w (M i) (M (i + 1)) b (i * 12) l[i]
theorem RusHas.lt {w : World} {B b : Nat} {l : List Ru} (h : RusHas w B b l) : b < w.heap.size := by
  obtain ⟨c, t, hb, _⟩ := h.blk
  exact (Array.getElem?_eq_some_iff.1 hb).1
theorem up_le {M : Nat → Nat} {n : Nat} (h : ∀ i, i < n → M i ≤ M (i + 1)) : ∀ j i, i ≤ j → j ≤ n → M i ≤ M j
  | 0, i, hi, _ => by obtain rfl : i = 0 := by omega
                      exact Nat.le_refl _
  | j + 1, i, hi, hj => by
    by_cases e : i = j + 1
    · subst e; exact Nat.le_refl _
    · exact Nat.le_trans (up_le h j i (by omega) (by omega)) (h j (by omega))
theorem RusHas.keeps {w w' : World} {B b : Nat} {l : List Ru} (h : RusHas w B b l) (k : Keeps B w w') : RusHas w' B b l := by
  have hb := k.2 b h.ge h.lt
  obtain ⟨c, t, hc, hcs⟩ := h.blk
  obtain ⟨M, m0, m1, m2, m3⟩ := h.one
  refine ⟨⟨c, t, hb.trans hc, hcs⟩, h.ge, h.len, M, m0, Nat.le_trans m1 k.1, m2, fun i hi => (m3 i hi).move (fun o _ _ => by simp [World.cell?, hb]) (fun y h1 h2 => k.2 y ?_ ?_)⟩
  · have := up_le m2 i 0 (by omega) (by omega); have := h.ge; omega
  · have := up_le m2 l.length (i + 1) (by omega) (by omega); omega
theorem RusHas.below {w w' : World} {B b : Nat} {l : List Ru} (h : RusHas w B b l) (hb : Below w.heap.size w w') : RusHas w' B b l := h.keeps (Keeps.of_below hb)
theorem RusHas.rus {w : World} {B b : Nat} {l : List Ru} (h : RusHas w B b l) : Rus w (some ⟨b, 0, none⟩) l := by
  obtain ⟨M, m0, m1, m2, m3⟩ := h.one
  exact ⟨h.len, fun _ => ⟨b, 0, rfl, h.lt, fun i hi => by rw [Nat.zero_add]; exact (m3 i hi).rd⟩⟩
theorem RusHas.low {w : World} {B B' b : Nat} {l : List Ru} (h : RusHas w B b l) (hB : B' ≤ B) : RusHas w B' b l :=
  ⟨h.blk, Nat.le_trans hB h.ge, h.len, h.one⟩

/-- What the copy of a list hands back: a row of its own. -/
def CopyRs (w : World) (l : List Ru) (e : Ending) (w' : World) : Prop :=
  e = .returned (.slice (some ⟨w.heap.size, 0, none⟩) l.length l.length) ∧ RusHas w' w.heap.size w.heap.size l ∧ Below w.heap.size w w'

end Go.Proofs.YtohijenlcfkliaaDoor
