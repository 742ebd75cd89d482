/- The marks that the laws write into what is looked for, and read of it. -/
import Derived.Test.YtpokhhplgljmiaaDoorEx4
namespace Go.Proofs.YtpokhhplgljmiaaDoor
open Go.ChangeShapes Go.WideShapes Go.ChangeAt Go.RowKit
set_option linter.unusedVariables false

/-- The slice a holds the list F in rows of its own: the blocks S. -/
def OwnAt (w : World) (a : Option Addr) (S : List Nat) (F : Fo) : Prop :=
  (F.len = 0 → S = []) ∧ (0 < F.len → ∃ b S', a = some ⟨b, 0, none⟩ ∧ S = b :: S' ∧ (∃ c t, w.heap[b]? = some (.cells c t (0, 0))) ∧ OwnKids w b 0 F.len S' F)

/-- Between w and w' only the blocks S have turned, and new ones have come. -/
structure Touch (S : List Nat) (w w' : World) : Prop where
  os : w'.os = w.os
  tape : w'.tape = w.tape
  output : w'.output = w.output
  size : w.heap.size ≤ w'.heap.size
  block : ∀ x, x < w.heap.size → x ∉ S → w'.heap[x]? = w.heap[x]?
theorem Touch.refl (S : List Nat) (w : World) : Touch S w w := ⟨rfl, rfl, rfl, Nat.le_refl _, fun _ _ _ => rfl⟩
theorem Touch.trans {S : List Nat} {a b c : World} (h : Touch S a b) (k : Touch S b c) : Touch S a c :=
  ⟨k.os.trans h.os, k.tape.trans h.tape, k.output.trans h.output, Nat.le_trans h.size k.size, fun x hx hS => (k.block x (Nat.lt_of_lt_of_le hx h.size) hS).trans (h.block x hx hS)⟩
theorem Touch.mono {S S' : List Nat} {a b : World} (h : Touch S a b) (hs : ∀ x ∈ S, x ∈ S') : Touch S' a b :=
  ⟨h.os, h.tape, h.output, h.size, fun x hx hS => h.block x hx (fun e => hS (hs x e))⟩
theorem Touch.setCell {S : List Nat} {a w : World} (h : Touch S a w) {p : Addr} (hp : p.block ∈ S) (u : Value) : Touch S a (w.setCell p u) :=
  h.trans ⟨rfl, rfl, rfl, by simp [World.setCell], fun x _ hS => Below.heap_setCell _ _ _ _ (fun e => hS (e ▸ hp))⟩
theorem Touch.below {S : List Nat} {w w' : World} {B : Nat} (h : Touch S w w') (hS : ∀ x ∈ S, B ≤ x) (hB : B ≤ w.heap.size) : Below B w w' :=
  ⟨h.os, h.tape, h.output, h.size, fun x hx => h.block x (by omega) (fun e => by have := hS x e; omega)⟩

def Fo.setAt : Nat → Fo → Int → Int → Int → Fo → Fo
  | _, .nil, _, _, _, _ => .nil
  | 0, .cons _ _ _ _ r, kd, sy, n, k => .cons kd sy n k r
  | i + 1, .cons kd' sy' n' k' r, kd, sy, n, k => .cons kd' sy' n' k' (r.setAt i kd sy n k)

/-- All numbers are marks, from k on. -/
def markF : Int → Fo → Fo
  | _, .nil => .nil
  | k, .cons _ _ _ kids rest => .cons k (k + 1) (k + 1 + 1) (markF (k + 1 + 1 + 1) kids) (markF (k + 3 + 3 * kids.size) rest)
/-- Those of the first i are. -/
def mixF : Nat → Int → Fo → Fo
  | _, _, .nil => .nil
  | 0, _, .cons kd sy n k r => .cons kd sy n k r
  | i + 1, k, .cons _ _ _ kids rest => .cons k (k + 1) (k + 1 + 1) (markF (k + 1 + 1 + 1) kids) (mixF i (k + 3 + 3 * kids.size) rest)
theorem markF_len : ∀ (k : Int) (F : Fo), (markF k F).len = F.len
  | _, .nil => rfl
  | k, .cons _ _ _ kids rest => by simp only [markF, Fo.len, markF_len _ rest]
theorem markF_size : ∀ (k : Int) (F : Fo), (markF k F).size = F.size
  | _, .nil => rfl
  | k, .cons _ _ _ kids rest => by simp only [markF, Fo.size, markF_size _ kids, markF_size _ rest]
theorem mixF_len : ∀ (i : Nat) (k : Int) (F : Fo), (mixF i k F).len = F.len
  | i, _, .nil => by cases i <;> rfl
  | 0, _, .cons .. => rfl
  | i + 1, k, .cons _ _ _ kids rest => by simp only [mixF, Fo.len, mixF_len i _ rest]
theorem mixF_zero (k : Int) (F : Fo) : mixF 0 k F = F := by cases F <;> rfl
theorem mixF_full : ∀ (i : Nat) (k : Int) (F : Fo), F.len ≤ i → mixF i k F = markF k F
  | i, _, .nil, _ => by cases i <;> rfl
  | 0, _, .cons .., h => by simp [Fo.len] at h
  | i + 1, k, .cons _ _ _ kids rest, h => by simp only [mixF, markF, mixF_full i _ rest (by simpa [Fo.len] using h)]
/-- The mark at which the i-th begins. -/
def markAt (k : Int) (F : Fo) (i : Nat) : Int := k + 3 * ((F.size : Int) - ((F.drop i).size : Int))
theorem mixF_drop : ∀ (i : Nat) (k : Int) (F : Fo), (mixF i k F).drop i = F.drop i
  | i, _, .nil => by cases i <;> rfl
  | 0, _, .cons .. => rfl
  | i + 1, k, .cons _ _ _ kids rest => by simp only [mixF, Fo.drop, mixF_drop i _ rest]
theorem mixF_next : ∀ (i : Nat) (k : Int) (F : Fo) (kd sy n : Int) (kids : Fo), F.drop i = .cons kd sy n kids (F.drop (i + 1)) →
    mixF (i + 1) k F = (mixF i k F).setAt i (markAt k F i) (markAt k F i + 1) (markAt k F i + 1 + 1) (markF (markAt k F i + 1 + 1 + 1) kids)
  | i, k, .nil, kd, sy, n, kids, h => by cases i <;> rfl
  | 0, k, .cons kd' sy' n' kids' rest, kd, sy, n, kids, h => by
    simp only [Fo.drop] at h
    cases h
    have e : markAt k (.cons kd' sy' n' kids' rest) 0 = k := by simp [markAt, Fo.drop]
    rw [e]
    simp only [mixF, Fo.setAt, mixF_zero]
  | i + 1, k, .cons kd' sy' n' kids' rest, kd, sy, n, kids, h => by
    simp only [Fo.drop] at h
    have e : markAt k (.cons kd' sy' n' kids' rest) (i + 1) = markAt (k + 3 + 3 * kids'.size) rest i := by
      simp only [markAt, Fo.drop, Fo.size]; omega
    rw [e, mixF, mixF_next i (k + 3 + 3 * kids'.size) rest kd sy n kids h]
    rfl
theorem markF_drop : ∀ (i : Nat) (k : Int) (F : Fo), (markF k F).drop i = markF (markAt k F i) (F.drop i)
  | i, k, .nil => by cases i <;> rfl
  | 0, k, .cons kd sy n kids rest => by
    have e : markAt k (.cons kd sy n kids rest) 0 = k := by simp [markAt, Fo.drop]
    rw [e]; rfl
  | i + 1, k, .cons kd sy n kids rest => by
    have e : markAt k (.cons kd sy n kids rest) (i + 1) = markAt (k + 3 + 3 * kids.size) rest i := by
      simp only [markAt, Fo.drop, Fo.size]; omega
    rw [e]
    show (markF _ rest).drop i = _
    rw [markF_drop i _ rest]; rfl

theorem Fo.drop_size : ∀ (i : Nat) (F : Fo), (F.drop i).size ≤ F.size
  | 0, F => by rw [Fo.drop_zero]; exact Nat.le_refl _
  | i + 1, .nil => by simp [Fo.drop]
  | i + 1, .cons _ _ _ kids rest => by have := Fo.drop_size i rest; simp only [Fo.drop, Fo.size]; omega

/-- One of the list: what lies of it, and what the list is when it has turned. -/
theorem OwnKids.at {w : World} : ∀ (F : Fo) (i b off : Nat) (S : List Nat) (kd sy n : Int) (kids : Fo), OwnKids w b off F.len S F → F.drop i = .cons kd sy n kids (F.drop (i + 1)) →
    ∃ T1 T2 T3 a cap, S = T1 ++ (T2 ++ T3) ∧ w.cell? ⟨b, off + i * 4, none⟩ = some (.int .i64 kd) ∧ w.cell? ⟨b, off + i * 4 + 1, none⟩ = some (.int .i64 sy) ∧ w.cell? ⟨b, off + i * 4 + 2, none⟩ = some (.int .i64 n) ∧
      w.cell? ⟨b, off + i * 4 + 3, none⟩ = some (.slice a kids.len cap) ∧ kids.len ≤ maxLen ∧ OwnAt w a T2 kids ∧
      ∀ (w' : World) (kd' sy' n' : Int) (kids' : Fo), kids'.len = kids.len → w'.cell? ⟨b, off + i * 4, none⟩ = some (.int .i64 kd') → w'.cell? ⟨b, off + i * 4 + 1, none⟩ = some (.int .i64 sy') → w'.cell? ⟨b, off + i * 4 + 2, none⟩ = some (.int .i64 n') →
        w'.cell? ⟨b, off + i * 4 + 3, none⟩ = some (.slice a kids.len cap) → (∀ o, off ≤ o → (o < off + i * 4 ∨ off + i * 4 + 4 ≤ o) → w'.cell? ⟨b, o, none⟩ = w.cell? ⟨b, o, none⟩) → (∀ x ∈ T1 ++ T3, w'.heap[x]? = w.heap[x]?) → OwnAt w' a T2 kids' →
        OwnKids w' b off F.len S (F.setAt i kd' sy' n' kids')
  | .nil, i, b, off, S, kd, sy, n, kids, h, hd => by rw [Fo.drop_end i .nil (by simp [Fo.len])] at hd; cases hd
  | .cons kd0 sy0 n0 kids0 rest, 0, b, off, S, kd, sy, n, kids, ⟨S1, S2, e, ⟨h1, h2, h3⟩, ⟨a, cap, h4, h5, h6, h7⟩, h8⟩, hd => by
    subst e
    simp only [Fo.drop] at hd
    cases hd
    refine ⟨[], S1, S2, a, cap, rfl, by simpa using h1, by simpa using h2, by simpa using h3, by simpa using h4, h5, ⟨h6, h7⟩, ?_⟩
    intro w' kd' sy' n' kids' hl g1 g2 g3 g4 go gb gk
    simp only [Nat.zero_mul, Nat.add_zero] at g1 g2 g3 g4 go
    refine ⟨S1, S2, rfl, ⟨g1, g2, g3⟩, ⟨a, cap, by rw [hl]; exact g4, by rw [hl]; exact h5, gk.1, gk.2⟩, ?_⟩
    exact h8.frame rest b (off + 4) rest.len S2 (fun o ho _ => go o (by omega) (by omega)) (fun x hx => gb x (by simpa using hx))
  | .cons kd0 sy0 n0 kids0 rest, i + 1, b, off, S, kd, sy, n, kids, ⟨S1, S2, e, h1, ⟨a0, cap0, h4, h5, h6, h7⟩, h8⟩, hd => by
    subst e
    simp only [Fo.drop] at hd
    obtain ⟨T1, T2, T3, a, cap, e, c1, c2, c3, c4, hl, hO, hback⟩ := OwnKids.at rest i b (off + 4) S2 kd sy n kids h8 hd
    subst e
    rw [show off + 4 + i * 4 = off + (i + 1) * 4 by omega] at c1 c2 c3 c4 hback
    refine ⟨S1 ++ T1, T2, T3, a, cap, by simp, c1, c2, c3, c4, hl, hO, ?_⟩
    intro w' kd' sy' n' kids' hl' g1 g2 g3 g4 go gb gk
    refine ⟨S1, T1 ++ (T2 ++ T3), rfl, ?_, ?_, hback w' kd' sy' n' kids' hl' g1 g2 g3 g4 (fun o ho ho' => go o (by omega) (by omega)) (fun x hx => gb x (by rw [List.append_assoc]; exact List.mem_append.2 (Or.inr hx))) gk⟩
    · obtain ⟨k1, k2, k3⟩ := h1
      exact ⟨by rw [go _ (by omega) (by omega)]; exact k1, by rw [go _ (by omega) (by omega)]; exact k2, by rw [go _ (by omega) (by omega)]; exact k3⟩
    · refine ⟨a0, cap0, by rw [go _ (by omega) (by omega)]; exact h4, h5, h6, fun hk => ?_⟩
      obtain ⟨b', S', ha, rfl, ⟨c, t, hbl⟩, hk'⟩ := h7 hk
      have hb' := gb b' (by simp)
      exact ⟨b', S', ha, rfl, ⟨c, t, hb'.trans hbl⟩, hk'.frame kids0 b' 0 _ S' (fun o _ _ => World.cell?_of_block (w := w) hb') (fun x hx => gb x (by simp [hx]))⟩

theorem OwnAt.blk {w : World} {a : Option Addr} {S : List Nat} {F : Fo} (h : OwnAt w a S F) : ∀ x ∈ S, x < w.heap.size := by
  intro x hx
  by_cases h0 : F.len = 0
  · rw [h.1 h0] at hx; cases hx
  · obtain ⟨b, S', _, rfl, ⟨c, t, hb⟩, hk⟩ := h.2 (by omega)
    rcases List.mem_cons.1 hx with rfl | hx
    · exact (Array.getElem?_eq_some_iff.1 hb).1
    · exact hk.lt F b 0 _ S' x hx

theorem OwnAt.of_blocks {w w' : World} {a : Option Addr} {S : List Nat} {F : Fo} (h : OwnAt w a S F) (e : ∀ x ∈ S, w'.heap[x]? = w.heap[x]?) : OwnAt w' a S F := by
  refine ⟨h.1, fun hl => ?_⟩
  obtain ⟨b, S', ha, rfl, ⟨c, t, hb⟩, hk⟩ := h.2 hl
  have hb' := e b (by simp)
  exact ⟨b, S', ha, rfl, ⟨c, t, hb'.trans hb⟩, hk.frame F b 0 _ S' (fun o _ _ => World.cell?_of_block (w := w) hb') (fun x hx => e x (by simp [hx]))⟩
theorem OwnAt.slc {w : World} {a : Option Addr} {S : List Nat} {F : Fo} (h : OwnAt w a S F) (hl : F.len ≤ maxLen) : Slc w a F := by
  refine ⟨hl, fun h0 => ?_⟩
  obtain ⟨b, S', ha, _, ⟨c, t, hb⟩, hk⟩ := h.2 h0
  exact ⟨b, 0, ha, (Array.getElem?_eq_some_iff.1 hb).1, hk.kids⟩
theorem fill3 {w : World} {b j : Nat} {c : Array Value} {t : TypeId} (hb : w.heap[b]? = some (.cells c t (0, 0))) (hj : j + 3 ≤ c.size) (v0 v1 v2 : Value) {w' : World}
    (e : ((w.setCell ⟨b, j, none⟩ v0).setCell ⟨b, j + 1, none⟩ v1).setCell ⟨b, j + 2, none⟩ v2 = w') :
    (∃ c', w'.heap[b]? = some (.cells c' t (0, 0)) ∧ c'.size = c.size) ∧ w'.cell? ⟨b, j, none⟩ = some v0 ∧ w'.cell? ⟨b, j + 1, none⟩ = some v1 ∧ w'.cell? ⟨b, j + 2, none⟩ = some v2 ∧
    (∀ o, (o < j ∨ j + 3 ≤ o) → w'.cell? ⟨b, o, none⟩ = w.cell? ⟨b, o, none⟩) ∧ (∀ x, x ≠ b → w'.heap[x]? = w.heap[x]?) := by
  have h4 : w'.heap[b]? = some (.cells (((c.setIfInBounds j v0).setIfInBounds (j + 1) v1).setIfInBounds (j + 2) v2) t (0, 0)) := by
    rw [← e]; exact heap_setCell_same _ _ _ _ _ _ (heap_setCell_same _ _ _ _ _ _ (heap_setCell_same _ _ _ _ _ _ hb))
  refine ⟨⟨_, h4, by simp⟩, ?_, ?_, ?_, ?_, ?_⟩
  · simp only [cell_at h4, Array.getElem?_setIfInBounds, Array.size_setIfInBounds]
    rw [if_neg (by omega), if_neg (by omega), if_pos trivial, if_pos (by omega)]
  · simp only [cell_at h4, Array.getElem?_setIfInBounds, Array.size_setIfInBounds]
    rw [if_neg (by omega), if_pos trivial, if_pos (by omega)]
  · simp only [cell_at h4, Array.getElem?_setIfInBounds, Array.size_setIfInBounds]
    rw [if_pos trivial, if_pos (by omega)]
  · intro o ho
    simp only [cell_at h4, cell_at hb, Array.getElem?_setIfInBounds, Array.size_setIfInBounds]
    rw [if_neg (by omega), if_neg (by omega), if_neg (by omega)]
  · intro x hx
    rw [← e]
    rw [Below.heap_setCell _ _ _ _ (fun e => hx e), Below.heap_setCell _ _ _ _ (fun e => hx e), Below.heap_setCell _ _ _ _ (fun e => hx e)]

theorem RowOwn.at {w : World} {B b : Nat} {S : List Nat} {F : Fo} (h : RowOwn w B b S F) : ∃ T, OwnAt w (some ⟨b, 0, none⟩) T F ∧ T.Nodup ∧ ∀ x ∈ T, B ≤ x ∧ x < w.heap.size := by
  by_cases h0 : F.len = 0
  · exact ⟨[], ⟨fun _ => rfl, fun hl => by omega⟩, List.nodup_nil, fun x hx => by cases hx⟩
  · exact ⟨b :: S, ⟨fun e => absurd e h0, fun _ => ⟨b, S, rfl, rfl, h.blk, h.own⟩⟩, h.apart, fun x hx => ⟨h.ge x hx, h.lt x hx⟩⟩

theorem OwnAt.below {w w' : World} {a : Option Addr} {S : List Nat} {F : Fo} (h : OwnAt w a S F) (hb : Below w.heap.size w w') : OwnAt w' a S F :=
  h.of_blocks fun x hx => hb.block x (h.blk x hx)

end Go.Proofs.YtpokhhplgljmiaaDoor
