/- What is looked for, in rows of its own; the copy. -/
import Derived.Test.YtpokhhplgljmiaaDoorEx1
import Derived.Laws.MakeOwn
namespace Go.Proofs.YtpokhhplgljmiaaDoor
open Go.ChangeShapes Go.WideShapes Go.ChangeAt Go.RowKit
set_option linter.unusedVariables false

/-- From cell off on block b holds the first i of the list F, their parts in rows of their own: the blocks S, in order. -/
def OwnKids (w : World) : Nat → Nat → Nat → List Nat → Fo → Prop
  | _, _, 0, S, _ => S = []
  | _, _, _ + 1, S, .nil => S = []
  | b, off, i + 1, S, .cons kd sy n kids rest => ∃ S1 S2, S = S1 ++ S2 ∧
    (w.cell? ⟨b, off, none⟩ = some (.int .i64 kd) ∧ w.cell? ⟨b, off + 1, none⟩ = some (.int .i64 sy) ∧ w.cell? ⟨b, off + 2, none⟩ = some (.int .i64 n)) ∧
    (∃ a cap, w.cell? ⟨b, off + 3, none⟩ = some (.slice a kids.len cap) ∧ kids.len ≤ maxLen ∧ (kids.len = 0 → S1 = []) ∧
      (0 < kids.len → ∃ b' S', a = some ⟨b', 0, none⟩ ∧ S1 = b' :: S' ∧ (∃ c t, w.heap[b']? = some (.cells c t (0, 0))) ∧ OwnKids w b' 0 kids.len S' kids)) ∧
    OwnKids w b (off + 4) i S2 rest

theorem OwnKids.zero {w : World} {b off : Nat} {S : List Nat} {F : Fo} : OwnKids w b off 0 S F ↔ S = [] := by cases F <;> exact Iff.rfl
theorem OwnKids.ofNil {w : World} {b off i : Nat} {S : List Nat} : OwnKids w b off i S .nil ↔ S = [] := by cases i <;> exact Iff.rfl
theorem cell_at {w : World} {b : Nat} {c : Array Value} {t : TypeId} {f : Nat × Nat} (h : w.heap[b]? = some (.cells c t f)) (o : Nat) : w.cell? ⟨b, o, none⟩ = c[o]? := by simp [World.cell?, h]

theorem OwnKids.frame {w w' : World} : ∀ (F : Fo) (b off i : Nat) (S : List Nat), OwnKids w b off i S F → (∀ o, off ≤ o → o < off + i * 4 → w'.cell? ⟨b, o, none⟩ = w.cell? ⟨b, o, none⟩) →
    (∀ x ∈ S, w'.heap[x]? = w.heap[x]?) → OwnKids w' b off i S F
  | _, _, _, 0, _, h, _, _ => OwnKids.zero.2 (OwnKids.zero.1 h)
  | .nil, _, _, _ + 1, _, h, _, _ => h
  | .cons kd sy n kids rest, b, off, i + 1, S, ⟨S1, S2, e, ⟨h1, h2, h3⟩, ⟨a, cap, h4, h5, h6, h7⟩, h8⟩, hc, hS => by
    subst e
    refine ⟨S1, S2, rfl, ⟨by rw [hc _ (by omega) (by omega)]; exact h1, by rw [hc _ (by omega) (by omega)]; exact h2, by rw [hc _ (by omega) (by omega)]; exact h3⟩,
      ⟨a, cap, by rw [hc _ (by omega) (by omega)]; exact h4, h5, h6, fun hk => ?_⟩, OwnKids.frame rest b (off + 4) i S2 h8 (fun o ho ho' => hc o (by omega) (by omega)) (fun x hx => hS x (by simp [hx]))⟩
    obtain ⟨b', S', ha, rfl, ⟨c, t, hbl⟩, hk'⟩ := h7 hk
    have hb' := hS b' (by simp)
    exact ⟨b', S', ha, rfl, ⟨c, t, hb'.trans hbl⟩, OwnKids.frame kids b' 0 kids.len S' hk' (fun o _ _ => World.cell?_of_block (w := w) hb') (fun x hx => hS x (by simp [hx]))⟩

theorem OwnKids.snoc {w : World} : ∀ (F : Fo) (b off i : Nat) (S : List Nat) (kd sy n : Int) (kids : Fo) (a : Option Addr) (cap : Nat) (S1 : List Nat), OwnKids w b off i S F → F.drop i = .cons kd sy n kids (F.drop (i + 1)) →
    w.cell? ⟨b, off + i * 4, none⟩ = some (.int .i64 kd) → w.cell? ⟨b, off + i * 4 + 1, none⟩ = some (.int .i64 sy) → w.cell? ⟨b, off + i * 4 + 2, none⟩ = some (.int .i64 n) →
    w.cell? ⟨b, off + i * 4 + 3, none⟩ = some (.slice a kids.len cap) → kids.len ≤ maxLen → (kids.len = 0 → S1 = []) →
    (0 < kids.len → ∃ b' S', a = some ⟨b', 0, none⟩ ∧ S1 = b' :: S' ∧ (∃ c t, w.heap[b']? = some (.cells c t (0, 0))) ∧ OwnKids w b' 0 kids.len S' kids) → OwnKids w b off (i + 1) (S ++ S1) F
  | .nil, b, off, i, S, kd, sy, n, kids, a, cap, S1, h, hd, h1, h2, h3, h4, h5, h6, h7 => by
    rw [Fo.drop_end i .nil (by simp [Fo.len])] at hd
    cases hd
  | .cons kd' sy' n' kids' rest, b, off, 0, S, kd, sy, n, kids, a, cap, S1, h, hd, h1, h2, h3, h4, h5, h6, h7 => by
    obtain rfl : S = [] := OwnKids.zero.1 h
    simp only [Fo.drop] at hd
    cases hd
    exact ⟨S1, [], by simp, ⟨by simpa using h1, by simpa using h2, by simpa using h3⟩, ⟨a, cap, by simpa using h4, h5, h6, h7⟩, OwnKids.zero.2 rfl⟩
  | .cons kd' sy' n' kids' rest, b, off, i + 1, S, kd, sy, n, kids, a, cap, S1, ⟨T1, T2, e, g1, g2, g3⟩, hd, h1, h2, h3, h4, h5, h6, h7 => by
    subst e
    simp only [Fo.drop] at hd
    rw [show off + (i + 1) * 4 = off + 4 + i * 4 by omega] at h1 h2 h3 h4
    exact ⟨T1, T2 ++ S1, by simp, g1, g2, OwnKids.snoc rest b (off + 4) i T2 kd sy n kids a cap S1 g3 hd h1 h2 h3 h4 h5 h6 h7⟩

/-- Such a list can be read. -/
theorem OwnKids.kids {w : World} : ∀ (F : Fo) (b off : Nat) (S : List Nat), OwnKids w b off F.len S F → Kids w b off F
  | .nil, _, _, _, _ => trivial
  | .cons kd sy n kids rest, b, off, S, ⟨S1, S2, _, h1, ⟨a, cap, h4, h5, _, h7⟩, h8⟩ => by
    refine ⟨h1, ⟨a, cap, h4, h5, fun hk => ?_⟩, OwnKids.kids rest b (off + 4) S2 h8⟩
    obtain ⟨b', S', ha, _, ⟨c, t, hbl⟩, hk'⟩ := h7 hk
    exact ⟨b', 0, ha, (Array.getElem?_eq_some_iff.1 hbl).1, OwnKids.kids kids b' 0 S' hk'⟩

theorem OwnKids.lt {w : World} : ∀ (F : Fo) (b off i : Nat) (S : List Nat), OwnKids w b off i S F → ∀ x ∈ S, x < w.heap.size
  | _, _, _, 0, _, h, x, hx => by rw [OwnKids.zero.1 h] at hx; cases hx
  | .nil, _, _, _ + 1, _, h, x, hx => by rw [OwnKids.ofNil.1 h] at hx; cases hx
  | .cons kd sy n kids rest, b, off, i + 1, S, ⟨S1, S2, e, _, ⟨a, cap, h4, h5, h6, h7⟩, h8⟩, x, hx => by
    subst e
    rcases List.mem_append.1 hx with h | h
    · by_cases hk : kids.len = 0
      · rw [h6 hk] at h; cases h
      · obtain ⟨b', S', _, rfl, ⟨c, t, hbl⟩, hk'⟩ := h7 (by omega)
        rcases List.mem_cons.1 h with rfl | h
        · exact (Array.getElem?_eq_some_iff.1 hbl).1
        · exact OwnKids.lt kids b' 0 _ S' hk' x h
    · exact OwnKids.lt rest b (off + 4) i S2 h8 x h

/-- Block b is a row of its own that holds the list F, its parts in the blocks S; all are from B on. -/
structure RowOwn (w : World) (B b : Nat) (S : List Nat) (F : Fo) : Prop where
  blk : ∃ c t, w.heap[b]? = some (.cells c t (0, 0))
  own : OwnKids w b 0 F.len S F
  apart : (b :: S).Nodup
  ge : ∀ x ∈ b :: S, B ≤ x
  len : F.len ≤ maxLen

theorem RowOwn.slc {w : World} {B b : Nat} {S : List Nat} {F : Fo} (h : RowOwn w B b S F) : Slc w (some ⟨b, 0, none⟩) F :=
  ⟨h.len, fun _ => ⟨b, 0, rfl, by obtain ⟨c, t, hb⟩ := h.blk; exact (Array.getElem?_eq_some_iff.1 hb).1, h.own.kids⟩⟩
theorem RowOwn.lt {w : World} {B b : Nat} {S : List Nat} {F : Fo} (h : RowOwn w B b S F) : ∀ x ∈ b :: S, x < w.heap.size := by
  intro x hx
  rcases List.mem_cons.1 hx with rfl | hx
  · obtain ⟨c, t, hb⟩ := h.blk; exact (Array.getElem?_eq_some_iff.1 hb).1
  · exact h.own.lt F b 0 _ S x hx
theorem RowOwn.of_blocks {w w' : World} {B b : Nat} {S : List Nat} {F : Fo} (h : RowOwn w B b S F) (e : ∀ x ∈ b :: S, w'.heap[x]? = w.heap[x]?) : RowOwn w' B b S F := by
  obtain ⟨c, t, hb⟩ := h.blk
  exact ⟨⟨c, t, (e b (by simp)).trans hb⟩, h.own.frame F b 0 _ S (fun o _ _ => World.cell?_of_block (w := w) (e b (by simp))) (fun x hx => e x (by simp [hx])), h.apart, h.ge, h.len⟩
theorem RowOwn.below {w w' : World} {B b : Nat} {S : List Nat} {F : Fo} (h : RowOwn w B b S F) (hb : Below w.heap.size w w') : RowOwn w' B b S F :=
  h.of_blocks fun x hx => hb.block x (h.lt x hx)

theorem fill4 {w : World} {b j : Nat} {c : Array Value} {t : TypeId} (hb : w.heap[b]? = some (.cells c t (0, 0))) (hj : j + 4 ≤ c.size) (v0 v1 v2 v3 : Value) {w' : World}
    (e : w' = (((w.setCell ⟨b, j, none⟩ v0).setCell ⟨b, j + 1, none⟩ v1).setCell ⟨b, j + 2, none⟩ v2).setCell ⟨b, j + 3, none⟩ v3) :
    (∃ c', w'.heap[b]? = some (.cells c' t (0, 0)) ∧ c'.size = c.size) ∧ w'.cell? ⟨b, j, none⟩ = some v0 ∧ w'.cell? ⟨b, j + 1, none⟩ = some v1 ∧ w'.cell? ⟨b, j + 2, none⟩ = some v2 ∧ w'.cell? ⟨b, j + 3, none⟩ = some v3 ∧
    (∀ o, o < j → w'.cell? ⟨b, o, none⟩ = w.cell? ⟨b, o, none⟩) ∧ (∀ x, x ≠ b → w'.heap[x]? = w.heap[x]?) := by
  have h4 : w'.heap[b]? = some (.cells ((((c.setIfInBounds j v0).setIfInBounds (j + 1) v1).setIfInBounds (j + 2) v2).setIfInBounds (j + 3) v3) t (0, 0)) := by
    rw [e]; exact heap_setCell_same _ _ _ _ _ _ (heap_setCell_same _ _ _ _ _ _ (heap_setCell_same _ _ _ _ _ _ (heap_setCell_same _ _ _ _ _ _ hb)))
  refine ⟨⟨_, h4, by simp⟩, ?_, ?_, ?_, ?_, ?_, ?_⟩
  · simp only [cell_at h4, Array.getElem?_setIfInBounds, Array.size_setIfInBounds]
    rw [if_neg (by omega), if_neg (by omega), if_neg (by omega), if_pos trivial, if_pos (by omega)]
  · simp only [cell_at h4, Array.getElem?_setIfInBounds, Array.size_setIfInBounds]
    rw [if_neg (by omega), if_neg (by omega), if_pos trivial, if_pos (by omega)]
  · simp only [cell_at h4, Array.getElem?_setIfInBounds, Array.size_setIfInBounds]
    rw [if_neg (by omega), if_pos trivial, if_pos (by omega)]
  · simp only [cell_at h4, Array.getElem?_setIfInBounds, Array.size_setIfInBounds]
    rw [if_pos trivial, if_pos (by omega)]
  · intro o ho
    simp only [cell_at h4, cell_at hb, Array.getElem?_setIfInBounds, Array.size_setIfInBounds]
    rw [if_neg (by omega), if_neg (by omega), if_neg (by omega), if_neg (by omega)]
  · intro x hx
    rw [e]
    rw [Below.heap_setCell _ _ _ _ (fun e => hx e), Below.heap_setCell _ _ _ _ (fun e => hx e), Below.heap_setCell _ _ _ _ (fun e => hx e), Below.heap_setCell _ _ _ _ (fun e => hx e)]
end Go.Proofs.YtpokhhplgljmiaaDoor
