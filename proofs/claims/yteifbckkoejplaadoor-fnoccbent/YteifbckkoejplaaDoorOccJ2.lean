/- Two places in one: both OccJoin. -/
import Derived.Test.YteifbckkoejplaaDoorOccJ1
import Derived.Test.YteifbckkoejplaaDoorAfter
namespace Go.Proofs.YteifbckkoejplaaDoor
open Go.ChangeShapes Go.WideShapes Go.ChangeAt Go.RowKit
set_option linter.unusedVariables false
set_option maxRecDepth 4000

/-- The numbers of both, ascending if both are. -/
def unionF : List Int → List Int → List Int
  | [], s => s
  | x :: r, [] => x :: r
  | x :: r, y :: s => if x < y then x :: unionF r (y :: s) else if x = y then y :: unionF r s else y :: unionF (x :: r) s
termination_by r s => r.length + s.length
theorem unionF_nil (l : List Int) : unionF l [] = l := by cases l <;> simp [unionF]
theorem unionF_left {l l' : List Int} {i k : Nat} (h : i < l.length) (h' : ¬ k < l'.length) : unionF (l.drop i) (l'.drop k) = l[i] :: unionF (l.drop (i + 1)) (l'.drop k) := by
  have e : l'.drop k = [] := List.drop_eq_nil_of_le (by omega)
  rw [e, unionF_nil, unionF_nil, List.drop_eq_getElem_cons h]
theorem unionF_right {l l' : List Int} {i k : Nat} (h : ¬ i < l.length) (h' : k < l'.length) : unionF (l.drop i) (l'.drop k) = l'[k] :: unionF (l.drop i) (l'.drop (k + 1)) := by
  have e : l.drop i = [] := List.drop_eq_nil_of_le (by omega)
  rw [e, List.drop_eq_getElem_cons h']
  simp [unionF]
theorem unionF_lt {l l' : List Int} {i k : Nat} (h : i < l.length) (h' : k < l'.length) (hl : l[i] < l'[k]) : unionF (l.drop i) (l'.drop k) = l[i] :: unionF (l.drop (i + 1)) (l'.drop k) := by
  rw [List.drop_eq_getElem_cons h, List.drop_eq_getElem_cons h', unionF, if_pos hl]
theorem unionF_eq {l l' : List Int} {i k : Nat} (h : i < l.length) (h' : k < l'.length) (hl : l[i] = l'[k]) : unionF (l.drop i) (l'.drop k) = l'[k] :: unionF (l.drop (i + 1)) (l'.drop (k + 1)) := by
  rw [List.drop_eq_getElem_cons h, List.drop_eq_getElem_cons h', unionF, if_neg (by omega), if_pos hl]
theorem unionF_gt {l l' : List Int} {i k : Nat} (h : i < l.length) (h' : k < l'.length) (hl : l'[k] < l[i]) : unionF (l.drop i) (l'.drop k) = l'[k] :: unionF (l.drop i) (l'.drop (k + 1)) := by
  rw [List.drop_eq_getElem_cons h, List.drop_eq_getElem_cons h', unionF, if_neg (by omega), if_neg (by omega)]
theorem unionF_mem : ∀ (l l' : List Int) (z : Int), z ∈ unionF l l' ↔ z ∈ l ∨ z ∈ l'
  | [], s, z => by simp [unionF]
  | x :: r, [], z => by simp [unionF]
  | x :: r, y :: s, z => by
    rw [unionF]
    split
    · rw [List.mem_cons, unionF_mem r (y :: s) z]; simp; grind
    · split
      · rename_i h; subst h
        rw [List.mem_cons, unionF_mem r s z]; simp; grind
      · rw [List.mem_cons, unionF_mem (x :: r) s z]; simp; grind
termination_by l l' => l.length + l'.length
theorem unionF_asc : ∀ (l l' : List Int), Asc l → Asc l' → Asc (unionF l l')
  | [], s, _, h => by simpa [unionF] using h
  | x :: r, [], h, _ => by simpa [unionF] using h
  | x :: r, y :: s, h, h' => by
    obtain ⟨a1, a2⟩ := List.pairwise_cons.1 h
    obtain ⟨b1, b2⟩ := List.pairwise_cons.1 h'
    rw [unionF]
    split
    · rename_i hxy
      refine List.pairwise_cons.2 ⟨fun z hz => ?_, unionF_asc r (y :: s) a2 h'⟩
      rcases (unionF_mem r (y :: s) z).1 hz with hz | hz
      · exact a1 z hz
      · rcases List.mem_cons.1 hz with rfl | hz
        · exact hxy
        · have := b1 z hz; omega
    · split
      · rename_i hxy; subst hxy
        refine List.pairwise_cons.2 ⟨fun z hz => ?_, unionF_asc r s a2 b2⟩
        rcases (unionF_mem r s z).1 hz with hz | hz
        · exact a1 z hz
        · exact b1 z hz
      · rename_i h1 h2
        refine List.pairwise_cons.2 ⟨fun z hz => ?_, unionF_asc (x :: r) s h b2⟩
        rcases (unionF_mem (x :: r) s z).1 hz with hz | hz
        · rcases List.mem_cons.1 hz with rfl | hz
          · omega
          · have := a1 z hz; omega
        · exact b1 z hz
termination_by l l' => l.length + l'.length
theorem unionF_length : ∀ (l l' : List Int), (unionF l l').length ≤ l.length + l'.length
  | [], s => by simp [unionF]
  | x :: r, [] => by simp [unionF]
  | x :: r, y :: s => by
    rw [unionF]
    split
    · have := unionF_length r (y :: s); simp at this ⊢; omega
    · split
      · have := unionF_length r s; simp; omega
      · have := unionF_length (x :: r) s; simp at this ⊢; omega
termination_by l l' => l.length + l'.length

theorem idsFrom_asc : ∀ (l : List Int) (last : Int), idsFrom last l = true → Asc l ∧ ∀ x ∈ l, last < x ∧ 0 ≤ x ∧ x < 24
  | [], _, _ => ⟨List.Pairwise.nil, by simp⟩
  | i :: r, last, h => by
    simp [idsFrom] at h
    obtain ⟨h1, h2⟩ := idsFrom_asc r i h.2
    refine ⟨List.pairwise_cons.2 ⟨fun x hx => (h2 x hx).1, h1⟩, fun x hx => ?_⟩
    rcases List.mem_cons.1 hx with rfl | hx
    · omega
    · have := h2 x hx; omega
theorem foldl_bit (l : List Int) : ∀ (s : Nat) (j : Nat), (l.foldl (fun s i => s ||| 2 ^ i.toNat) s).testBit j = (s.testBit j || l.any (fun i => i.toNat == j)) := by
  induction l with
  | nil => intro s j; simp
  | cons i r ih =>
    intro s j
    rw [List.foldl_cons, ih, Nat.testBit_or, Nat.testBit_two_pow, List.any_cons, Bool.or_assoc]
    congr 1
theorem bitsOf_bit (l : List Int) (j : Nat) : (bitsOf l).testBit j = l.any (fun i => i.toNat == j) := by
  unfold bitsOf; rw [foldl_bit]; simp
theorem bits_union {l l' r : List Int} (h : idsFrom (-1) l = true) (h' : idsFrom (-1) l' = true) (hr : IsBits (bitsOf l ||| bitsOf l') r) : r = unionF l l' := by
  obtain ⟨a1, a2⟩ := idsFrom_asc l _ h
  obtain ⟨b1, b2⟩ := idsFrom_asc l' _ h'
  refine asc_ext _ _ hr.asc (unionF_asc l l' a1 b1) fun z => ?_
  rw [hr.mem, unionF_mem, Nat.testBit_or, bitsOf_bit, bitsOf_bit]
  simp only [Bool.or_eq_true, List.any_eq_true, beq_iff_eq]
  constructor
  · rintro ⟨h0, (⟨i, hi, e⟩ | ⟨i, hi, e⟩)⟩
    · have := a2 i hi
      obtain rfl : i = z := by omega
      exact .inl hi
    · have := b2 i hi
      obtain rfl : i = z := by omega
      exact .inr hi
  · rintro (hz | hz)
    · exact ⟨(a2 z hz).2.1, .inl ⟨z, hz, rfl⟩⟩
    · exact ⟨(b2 z hz).2.1, .inr ⟨z, hz, rfl⟩⟩
theorem bitsOf_small {l : List Int} (h : idsFrom (-1) l = true) : bitsOf l < 16777216 := by
  obtain ⟨_, a2⟩ := idsFrom_asc l _ h
  have : ∀ (l : List Int) (s : Nat), (∀ x ∈ l, 0 ≤ x ∧ x < 24) → s < 2 ^ 24 → l.foldl (fun s i => s ||| 2 ^ i.toNat) s < 2 ^ 24 := by
    intro l
    induction l with
    | nil => intro s _ hs; simpa using hs
    | cons i r ih =>
      intro s hl hs
      refine ih _ (fun x hx => hl x (by simp [hx])) (Nat.or_lt_two_pow hs (Nat.pow_lt_pow_right (by omega) ?_))
      have := hl i (by simp)
      omega
  exact this l 0 (fun x hx => (a2 x hx).2) (by decide)

end Go.Proofs.YteifbckkoejplaaDoor
