/- Lists of places in rows of their own: copies of a list. -/
import Derived.Test.YtjaneedmhekheaaOccP1
namespace Go.Proofs.Ytjaneedmhekheaa
open Go.ChangeShapes Go.WideShapes Go.ChangeAt Go.RowKit
set_option linter.unusedVariables false
set_option maxRecDepth 4000

/-- What the copy of a list hands back. -/
def CopyL (w : World) (l : List Occ) (e : Ending) (w' : World) : Prop :=
  ∃ v L, e = .returned v ∧ L.map (·.o) = l ∧ OccsOwn w' w.heap.size v L ∧ Below w.heap.size w w'
theorem info_occ_parts : ∃ i, Try.prog.info? 25 = some i ∧ i.zero = some (.agg #[.int .i64 0, .int .i64 0, .slice none 0 0]) ∧ i.size = 3 ∧ i.bytes = 40 := by
  have hi := info_occ
  cases h : Try.prog.info? 25 with
  | none => rw [h] at hi; simp at hi
  | some i => rw [h] at hi; simp at hi; exact ⟨i, rfl, hi⟩
theorem new_occ (w : World) (x : OC) (t : TypeId) : ∀ j u, x.v[j]? = some u → (w.alloc (.cells #[.int .i64 x.o.fr, .int .i64 x.o.tl, .slice x.a x.o.ids.length x.c] t)).cell? ((⟨w.heap.size, 0, none⟩ : Addr).add j) = some u := by
  intro j u hj
  match j, hj with
  | 0, hj => simp [OC.v] at hj; subst hj; simp [Addr.add]
  | 1, hj => simp [OC.v] at hj; subst hj; simp [Addr.add]
  | 2, hj => simp [OC.v] at hj; subst hj; simp [Addr.add]
theorem ocv_one (x : OC) : ∀ u ∈ x.v, u.oneCell' = true := by
  intro u hu
  simp [OC.v] at hu
  rcases hu with rfl | rfl | rfl <;> rfl
theorem OccsOwn.nil (w : World) (B : Nat) : OccsOwn w B (.slice none 0 0) [] := ⟨World.ownsRow_nil _ _ _ _, by simp, by simp, by simp, List.Pairwise.nil⟩
theorem OccsOwn.made (w : World) : OccsOwn (w.alloc (.cells #[] 25)) w.heap.size (.slice (some ⟨w.heap.size, 0, none⟩) 0 0) [] :=
  ⟨World.ownsRow_made _ _ _ (Nat.le_refl _) (by simp [maxLen]) rfl, by simp, by simp, by simp, List.Pairwise.nil⟩
/-- A copy that was made behind w1 is put behind the others. -/
theorem OccsOwn.put {w1 w2 w' : World} {B : Nat} {v v' : Value} {L : List OC} {o : Occ} {a : Option Addr} {c : Nat} (h : OccsOwn w1 B v L) (hB : B ≤ w1.heap.size) (hi : IntOwn w2 w1.heap.size a o.ids) (hl : ∀ p, a = some p → p.block < w2.heap.size) (hb : Below w1.heap.size w1 w2) (T : TypeId)
    (r1 : w'.ownsRow B 25 3 v' (L.length + 1) (ocCells L ++ OC.v ⟨o, a, c⟩)) (r2 : (w2.alloc (.cells #[.int .i64 o.fr, .int .i64 o.tl, .slice a o.ids.length c] T)).grownBy w' v.ownBlock)
    (r3 : ∀ k, v'.ownBlock = some k → v.ownBlock = some k ∨ (w2.alloc (.cells #[.int .i64 o.fr, .int .i64 o.tl, .slice a o.ids.length c] T)).heap.size ≤ k) : OccsOwn w' B v' (L ++ [⟨o, a, c⟩]) := by
  have hal := oBelow_new w2 (.cells #[.int .i64 o.fr, .int .i64 o.tl, .slice a o.ids.length c] T)
  refine ((h.below hb).below hal).snoc (x := ⟨o, a, c⟩) ?_ (fun p hp => ?_) (fun p hp e => ?_) (fun y hy p q hp hq => ?_) r1 r2 r3
  · have h1 := hi.below hal
    refine ⟨h1.len, fun x hx => Nat.le_trans hB (h1.ge x hx), fun hpos => ?_⟩
    obtain ⟨b, e, g1, g2⟩ := h1.row hpos
    exact ⟨b, e, Nat.le_trans hB g1, g2⟩
  · exact Nat.lt_of_lt_of_le (hl p hp) hal.size
  · have h1 := (h.row.lt _ e).2
    have h2 := hi.ge p hp
    omega
  · have h1 := h.lt y hy p hp
    have h2 := hi.ge q hq
    omega

end Go.Proofs.Ytjaneedmhekheaa
