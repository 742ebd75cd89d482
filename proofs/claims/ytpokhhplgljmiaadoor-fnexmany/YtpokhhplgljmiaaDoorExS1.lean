/- What is named, ascending: sorting the names of all parts and striking doubles gives the specification's list. -/
import Derived.Test.YtpokhhplgljmiaaDoorExP
import Derived.Test.YtpokhhplgljmiaaDoorEx7
import Derived.Lib.SlicesCompact
namespace Go.Proofs.YtpokhhplgljmiaaDoor
set_option linter.unusedVariables false

/-- Two ascending lists with the same members are one. -/
theorem asc_unique : ∀ (a b : List Int), a.Pairwise (· < ·) → b.Pairwise (· < ·) → (∀ x, x ∈ a ↔ x ∈ b) → a = b
  | [], [], _, _, _ => rfl
  | [], y :: b, _, _, h => by have := (h y).2 (by simp); cases this
  | x :: a, [], _, _, h => by have := (h x).1 (by simp); cases this
  | x :: a, y :: b, ha, hb, h => by
    obtain ⟨ha1, ha2⟩ := List.pairwise_cons.1 ha
    obtain ⟨hb1, hb2⟩ := List.pairwise_cons.1 hb
    have hxy : x = y := by
      have h1 := (h x).1 (by simp)
      have h2 := (h y).2 (by simp)
      rcases List.mem_cons.1 h1 with e | h1
      · exact e
      rcases List.mem_cons.1 h2 with e | h2
      · exact e.symm
      have := ha1 y h2
      have := hb1 x h1
      omega
    subst hxy
    rw [asc_unique a b ha2 hb2 fun z => ⟨fun hz => ?_, fun hz => ?_⟩]
    · rcases List.mem_cons.1 ((h z).1 (by simp [hz])) with e | h'
      · have := ha1 z hz; omega
      · exact h'
    · rcases List.mem_cons.1 ((h z).2 (by simp [hz])) with e | h'
      · have := hb1 z hz; omega
      · exact h'

theorem compact_upto (d : Array Int) (hs : ∀ i j, i ≤ j → j < d.size → d[i]! ≤ d[j]!) : ∀ m, m ≤ d.size → (Lib.compactUpTo d m).Pairwise (· < ·) ∧ ∀ x, x ∈ Lib.compactUpTo d m ↔ ∃ j, j < m ∧ d[j]! = x
  | 0, _ => by simp [Lib.compactUpTo]
  | m + 1, hm => by
    obtain ⟨h1, h2⟩ := compact_upto d hs m (by omega)
    rw [Lib.compactUpTo_succ]
    by_cases hk : Lib.keeps d m = true
    · rw [if_pos hk]
      refine ⟨List.pairwise_append.2 ⟨h1, by simp, fun a ha b hb => ?_⟩, fun x => ?_⟩
      · obtain ⟨j, hj, rfl⟩ := (h2 a).1 ha
        obtain rfl : b = d[m]! := by simpa using hb
        have hk' : m = 0 ∨ d[m]! ≠ d[m - 1]! := by simpa [Lib.keeps] using hk
        have e1 := hs j (m - 1) (by omega) (by omega)
        have e2 := hs (m - 1) m (by omega) (by omega)
        rcases hk' with h0 | hne
        · omega
        · omega
      · simp only [List.mem_append, h2, List.mem_singleton]
        constructor
        · rintro (⟨j, hj, e⟩ | e)
          · exact ⟨j, by omega, e⟩
          · exact ⟨m, by omega, e.symm⟩
        · rintro ⟨j, hj, e⟩
          by_cases h : j = m
          · subst h; exact .inr e.symm
          · exact .inl ⟨j, by omega, e⟩
    · rw [if_neg hk, List.append_nil]
      refine ⟨h1, fun x => ?_⟩
      rw [h2]
      have hk' : ¬ (m = 0 ∨ d[m]! ≠ d[m - 1]!) := by simpa [Lib.keeps] using hk
      have hm0 : m ≠ 0 := fun h => hk' (.inl h)
      have he : d[m]! = d[m - 1]! := by
        by_cases e : d[m]! = d[m - 1]!
        · exact e
        · exact absurd (.inr e) hk'
      constructor
      · rintro ⟨j, hj, e⟩; exact ⟨j, by omega, e⟩
      · rintro ⟨j, hj, e⟩
        by_cases h : j = m
        · subst h; exact ⟨j - 1, by omega, by rw [← he]; exact e⟩
        · exact ⟨j, by omega, e⟩

theorem compact_sorted (zs : List Int) : (Lib.compact (zs.mergeSort fun x y => decide (x ≤ y))).Pairwise (· < ·) ∧ ∀ x, x ∈ Lib.compact (zs.mergeSort fun x y => decide (x ≤ y)) ↔ x ∈ zs := by
  obtain ⟨ys, hys⟩ : ∃ ys, (zs.mergeSort fun x y => decide (x ≤ y)) = ys := ⟨_, rfl⟩
  have hp := List.pairwise_mergeSort (le := fun x y : Int => decide (x ≤ y)) (fun a b c h1 h2 => by simp at *; omega) (fun a b => by simp; omega) zs
  have hmem : ∀ x, x ∈ ys ↔ x ∈ zs := fun x => by rw [← hys]; exact List.mem_mergeSort
  rw [hys] at hp ⊢
  have hs : ∀ i j, i ≤ j → j < ys.toArray.size → ys.toArray[i]! ≤ ys.toArray[j]! := by
    intro i j hij hj
    simp only [List.size_toArray] at hj
    rw [getElem!_pos _ i (by simp; omega), getElem!_pos _ j (by simpa using hj)]
    by_cases e : i = j
    · subst e; exact Int.le_refl _
    · have := List.pairwise_iff_getElem.1 hp i j (by omega) hj (by omega)
      simpa using this
  obtain ⟨h1, h2⟩ := compact_upto ys.toArray hs ys.length (by simp)
  refine ⟨h1, fun x => ?_⟩
  rw [← hmem]
  refine (h2 x).trans ⟨?_, fun hx => ?_⟩
  · rintro ⟨j, hj, e⟩
    rw [getElem!_pos _ j (by simpa using hj)] at e
    subst e
    simp
  · obtain ⟨j, hj, e⟩ := List.getElem_of_mem hx
    exact ⟨j, hj, by rw [getElem!_pos _ j (by simpa using hj)]; simpa using e⟩

/-- The names of all. -/
def namesT (l : List (Int × Int × Int)) : List Int := (l.filter fun x => decide (x.1 = 1)).map fun x => x.2.1
theorem namesT_append (a b : List (Int × Int × Int)) : namesT (a ++ b) = namesT a ++ namesT b := by simp [namesT]
theorem namesT_cons (kd sy n : Int) (l : List (Int × Int × Int)) : namesT ((kd, sy, n) :: l) = (if kd = 1 then [sy] else []) ++ namesT l := by
  by_cases h : kd = 1 <;> simp [namesT, h]

theorem head_leaf {sy n : Int} {k : Fo} (h : headB 1 sy n k.len = true) : k = .nil := by
  have := ((headB_parts _ _ _ _).1 h).2.1
  have hl : k.len = 0 := by simp [kidsOf] at this; omega
  cases k with
  | nil => rfl
  | cons => simp [Fo.len] at hl

theorem names_mem (s : Int) : ∀ (d : Nat) (F : Fo), formF d F = true → (nameF s F = true ↔ s ∈ namesT (preF F))
  | _, .nil, _ => by simp [nameF, preF, namesT]
  | 0, .cons .., h => by simp [formF] at h
  | d + 1, .cons kd sy n k r, h => by
    simp only [formF, Bool.and_eq_true] at h
    obtain ⟨⟨h1, h2⟩, h3⟩ := h
    have ik := names_mem s d k h2
    have ir := names_mem s (d + 1) r h3
    simp only [preF, namesT_cons, namesT_append, List.mem_append, nameF, Bool.or_eq_true, ir]
    by_cases hk : kd = 1
    · subst hk
      obtain rfl := head_leaf h1
      simp [preF, namesT, eq_comm]
    · simp [hk, ik]

theorem names_range : ∀ (d : Nat) (F : Fo), formF d F = true → ∀ s ∈ namesT (preF F), 0 ≤ s ∧ s < 5
  | _, .nil, _, s, hs => by simp [preF, namesT] at hs
  | 0, .cons .., h, _, _ => by simp [formF] at h
  | d + 1, .cons kd sy n k r, h, s, hs => by
    simp only [formF, Bool.and_eq_true] at h
    obtain ⟨⟨h1, h2⟩, h3⟩ := h
    simp only [preF, namesT_cons, namesT_append, List.mem_append] at hs
    rcases hs with hs | hs | hs
    · have hh := h1
      simp only [headB, decide_eq_true_eq] at hh
      split at hs
      · obtain rfl : s = sy := by simpa using hs
        omega
      · cases hs
    · exact names_range d k h2 s hs
    · exact names_range (d + 1) r h3 s hs

theorem syms_eq {kd sy n : Int} {F : Fo} (ho : okX kd sy n F = true) : Lib.compact ((namesT ((kd, sy, n) :: preF F)).mergeSort fun x y => decide (x ≤ y)) = symsX kd sy n F := by
  have hf : formF 5 (.cons kd sy n F .nil) = true := by
    have h5 : formX 5 kd sy n F = true := by
      simp only [okX, Bool.and_eq_true] at ho; exact ho.1
    simp only [formX, Bool.and_eq_true] at h5
    simp [formF, h5]
  have hpre : preF (.cons kd sy n F .nil) = (kd, sy, n) :: preF F := by simp [preF]
  have hmem := fun s => names_mem s 5 _ hf
  have hrange := names_range 5 _ hf
  rw [hpre] at hrange
  have hname : ∀ s, nameX s kd sy F = true ↔ s ∈ namesT ((kd, sy, n) :: preF F) := fun s => by
    rw [← hpre, ← hmem s]; simp [nameF, nameX]
  obtain ⟨h1, h2⟩ := compact_sorted (namesT ((kd, sy, n) :: preF F))
  refine asc_unique _ _ h1 ?_ fun x => ?_
  · rw [symsX, if_pos ho, symsTo]
    refine List.Pairwise.filter _ ?_
    simp [List.range_succ]
  · rw [h2, symsX, if_pos ho, symsTo, List.mem_filter, hname]
    constructor
    · intro hx
      obtain ⟨r0, r5⟩ := hrange x hx
      refine ⟨List.mem_map.2 ⟨x.toNat, by simp; omega, by simp; omega⟩, hx⟩
    · exact fun h => h.2
end Go.Proofs.YtpokhhplgljmiaaDoor
