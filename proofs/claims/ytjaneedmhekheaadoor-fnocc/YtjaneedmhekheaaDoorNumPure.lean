/- Plain mathematics of texts: decimals read back, a text cut at its spaces. No program. -/
import Derived.Test.YtjaneedmhekheaaDoorLetter
namespace Go.Proofs.YtjaneedmhekheaaDoor
set_option linter.unusedVariables false

/-! ### Decimals -/
abbrev isDig (c : UInt8) : Prop := 48 ≤ c.toNat ∧ c.toNat ≤ 57
def dval (a : Nat) (c : UInt8) : Nat := a * 10 + (c.toNat - 48)
/-- What some digits say. -/
def digs (l : List UInt8) : Nat := l.foldl dval 0

theorem digs_snoc (l : List UInt8) (c : UInt8) : digs (l ++ [c]) = digs l * 10 + (c.toNat - 48) := by simp [digs, dval]
theorem foldl_ge : ∀ (l : List UInt8) (a : Nat), a ≤ l.foldl dval a
  | [], a => Nat.le_refl _
  | c :: r, a => by
    have := foldl_ge r (dval a c)
    simp only [List.foldl_cons]
    unfold dval at this ⊢
    omega

theorem ofNat_dig {c : UInt8} (h : isDig c) : UInt8.ofNat (48 + (c.toNat - 48)) = c := by
  have : 48 + (c.toNat - 48) = c.toNat := by unfold isDig at h; omega
  rw [this]; simp

/-- Digits without a needless zero are the decimals of what they say. -/
theorem decDigits_digs : ∀ (n : Nat) (l : List UInt8), l.length = n + 1 → (∀ c ∈ l, isDig c) → (l.head? = some 48 → l.length = 1) → Lib.decDigits (digs l) = l
  | 0, l, hl, hd, h0 => by
    match l, hl with
    | [c], _ =>
      have hc := hd c (by simp)
      have : digs [c] = c.toNat - 48 := by simp [digs, dval]
      rw [this, Lib.decDigits, dif_pos (by unfold isDig at hc; omega), ofNat_dig hc]
  | n + 1, l, hl, hd, h0 => by
    obtain ⟨r, c, rfl⟩ : ∃ r c, l = r ++ [c] := ⟨l.dropLast, l.getLast (by intro e; simp [e] at hl), (List.dropLast_concat_getLast _).symm⟩
    have hlr : r.length = n + 1 := by simpa using hl
    have hc := hd c (by simp)
    have hne : r ≠ [] := by intro e; simp [e] at hlr
    have hh : r.head? = (r ++ [c]).head? := by
      match r, hne with
      | x :: s, _ => rfl
    have hz : ¬ r.head? = some 48 := by
      intro e
      have := h0 (hh ▸ e)
      rw [List.length_append, List.length_singleton] at this
      omega
    have ih := decDigits_digs n r hlr (fun x hx => hd x (by simp [hx])) (fun e => absurd e hz)
    have hpos : 1 ≤ digs r := by
      match r, hne with
      | x :: s, _ =>
        have hx := hd x (by simp)
        have hx0 : x ≠ 48 := by intro e; exact hz (by simp [e])
        have : 1 ≤ dval 0 x := by
          unfold dval isDig at *
          have : x.toNat ≠ 48 := by intro e; exact hx0 (UInt8.toNat_inj.1 (by rw [e]; rfl))
          omega
        exact Nat.le_trans this (by simpa [digs] using foldl_ge s (dval 0 x))
    rw [digs_snoc, Lib.decDigits, dif_neg (by omega)]
    have e1 : (digs r * 10 + (c.toNat - 48)) / 10 = digs r := by unfold isDig at hc; omega
    have e2 : (digs r * 10 + (c.toNat - 48)) % 10 = c.toNat - 48 := by unfold isDig at hc; omega
    rw [e1, e2, ih, ofNat_dig hc]

theorem isDig_ofNat {d : Nat} (h : d < 10) : isDig (UInt8.ofNat (48 + d)) := by
  have : (UInt8.ofNat (48 + d)).toNat = 48 + d := by simp; omega
  unfold isDig; omega
theorem toNat_ofNat {d : Nat} (h : d < 10) : (UInt8.ofNat (48 + d)).toNat = 48 + d := by simp; omega

/-- The decimals of a number: digits, at least one, no needless zero, and they say it. -/
theorem decDigits_props (u : Nat) : (∀ c ∈ Lib.decDigits u, isDig c) ∧ Lib.decDigits u ≠ [] ∧ ((Lib.decDigits u).head? = some 48 → u = 0) ∧ digs (Lib.decDigits u) = u := by
  induction u using Nat.strongRecOn with
  | ind u ih =>
    by_cases h : u < 10
    · rw [Lib.decDigits, dif_pos h]
      refine ⟨fun c hc => ?_, by simp, fun e => ?_, ?_⟩
      · rw [List.mem_singleton] at hc; subst hc; exact isDig_ofNat h
      · rw [List.head?_cons, Option.some.injEq] at e
        have := toNat_ofNat h
        rw [e] at this
        have e48 : (48 : UInt8).toNat = 48 := rfl
        omega
      · have := toNat_ofNat h
        simp only [digs, List.foldl_cons, List.foldl_nil, dval]; omega
    · obtain ⟨i1, i2, i3, i4⟩ := ih (u / 10) (by omega)
      have hm : u % 10 < 10 := by omega
      rw [Lib.decDigits, dif_neg h]
      refine ⟨fun c hc => ?_, by simp, fun e => ?_, ?_⟩
      · simp only [List.mem_append, List.mem_singleton] at hc
        rcases hc with hc | hc
        · exact i1 c hc
        · subst hc; exact isDig_ofNat hm
      · have : (Lib.decDigits (u / 10)).head? = some 48 := by
          match hh : Lib.decDigits (u / 10), i2 with
          | x :: s, _ => rw [hh] at e; simpa using e
        have := i3 this
        omega
      · rw [digs_snoc, i4, toNat_ofNat hm]; omega

theorem itoa_nat {n : Int} (h : 0 ≤ n) : Lib.itoa n = Lib.decDigits n.toNat := by
  unfold Lib.itoa; rw [if_neg (by omega)]

/-! ### The specification's reader of a number -/
def numPos (r : List UInt8) (neg : Bool) : Option Nat :=
  if r = [] ∨ 17 < r.length ∨ (r.head? = some 48 ∧ (1 < r.length ∨ neg = true)) ∨ ¬ (∀ c ∈ r, isDig c) then none else some (digs r)
def negI (n : Nat) : Int := -(n : Int)
def posI (n : Nat) : Int := (n : Int)
def numF (s : List UInt8) : Option Int :=
  if s.head? = some 45 then (numPos s.tail true).map negI else (numPos s false).map posI

theorem numPos_sound {r : List UInt8} {neg : Bool} {n : Nat} (h : numPos r neg = some n) : Lib.decDigits n = r ∧ (neg = true → 1 ≤ n) := by
  unfold numPos at h
  split at h
  · cases h
  · rename_i hc
    simp only [not_or, Classical.not_not] at hc
    obtain ⟨h1, h2, h3, h4⟩ := hc
    injection h with h
    subst h
    have hl : r.length ≠ 0 := by simpa using h1
    refine ⟨decDigits_digs (r.length - 1) r (by omega) h4 (fun e => ?_), fun hneg => ?_⟩
    · have : ¬ 1 < r.length := fun hx => h3 ⟨e, Or.inl hx⟩
      omega
    · have h0 : r.head? ≠ some 48 := fun e => h3 ⟨e, Or.inr hneg⟩
      match r, h1 with
      | x :: t, _ =>
        have hx := h4 x (by simp)
        have : 1 ≤ dval 0 x := by
          unfold dval isDig at *
          have : x.toNat ≠ 48 := by
            intro e
            exact h0 (by rw [List.head?_cons, Option.some.injEq]; exact UInt8.toNat_inj.1 (by rw [e]; rfl))
          omega
        exact Nat.le_trans this (by simpa [digs] using foldl_ge t (dval 0 x))

theorem numF_sound {s : List UInt8} {n : Int} (h : numF s = some n) : Lib.itoa n = s := by
  unfold numF at h
  split at h
  · rename_i hn
    obtain ⟨m, hm, rfl⟩ := Option.map_eq_some_iff.1 h
    obtain ⟨h1, h2⟩ := numPos_sound hm
    have := h2 rfl
    unfold negI
    rw [Lib.itoa, if_pos (by omega)]
    have e : (-(m : Int)).natAbs = m := by omega
    rw [e, h1]
    match s, hn with
    | x :: r, hn => rw [List.head?_cons, Option.some.injEq] at hn; rw [hn]; rfl
  · obtain ⟨m, hm, rfl⟩ := Option.map_eq_some_iff.1 h
    obtain ⟨h1, _⟩ := numPos_sound hm
    unfold posI
    rw [itoa_nat (by omega)]
    exact h1

theorem nDigits_le7 {u : Nat} (h : u ≤ 1000000) : Lib.nDigits u ≤ 7 := by
  by_cases h1 : u < 10
  · rw [Lib.nDigits_small h1]; omega
  by_cases h2 : u < 100
  · rw [Lib.nDigits_unique 1 u (by omega) (by omega)]; omega
  by_cases h3 : u < 1000
  · rw [Lib.nDigits_unique 2 u (by omega) (by omega)]; omega
  by_cases h4 : u < 10000
  · rw [Lib.nDigits_unique 3 u (by omega) (by omega)]; omega
  by_cases h5 : u < 100000
  · rw [Lib.nDigits_unique 4 u (by omega) (by omega)]; omega
  by_cases h6 : u < 1000000
  · rw [Lib.nDigits_unique 5 u (by omega) (by omega)]; omega
  · rw [Lib.nDigits_unique 6 u (by omega) (by omega)]; omega

theorem numF_complete {n : Int} (h0 : 0 ≤ n) (h1 : n ≤ 1000000) : numF (Lib.itoa n) = some n := by
  rw [itoa_nat h0]
  obtain ⟨p1, p2, p3, p4⟩ := decDigits_props n.toNat
  have hlen : (Lib.decDigits n.toNat).length ≤ 7 := by rw [Lib.decDigits_length]; exact nDigits_le7 (by omega)
  have hh : ¬ (Lib.decDigits n.toNat).head? = some 45 := by
    intro e
    have := p1 45 (List.mem_of_mem_head? e)
    revert this; decide
  unfold numF numPos
  rw [if_neg hh, if_neg]
  · rw [p4]; simp [posI]; omega
  · simp only [not_or, Classical.not_not]
    refine ⟨p2, by omega, fun e => ?_, p1⟩
    have hz := p3 e.1
    have : (Lib.decDigits n.toNat).length = 1 := by rw [hz, Lib.decDigits_length, Lib.nDigits_small (by omega)]
    rcases e.2 with h | h
    · omega
    · cases h

/-! ### The program's reader of a number -/
def capStep (n : Int) (c : UInt8) : Int := if n ≤ 1000000 then 10 * n + ((c.toNat : Int) - 48) else n
/-- The number whose digits a text begins with, and how many they are. -/
def numAt (n : Int) : List UInt8 → Int × Nat
  | [] => (n, 0)
  | c :: r => if isDig c then ((numAt (capStep n c) r).1, (numAt (capStep n c) r).2 + 1) else (n, 0)

theorem numAt_yes {n : Int} {c : UInt8} {r : List UInt8} (h : isDig c) : numAt n (c :: r) = ((numAt (capStep n c) r).1, (numAt (capStep n c) r).2 + 1) := if_pos h
theorem numAt_no {n : Int} {c : UInt8} {r : List UInt8} (h : ¬ isDig c) : numAt n (c :: r) = (n, 0) := if_neg h

theorem numAt_bound : ∀ (l : List UInt8) (n : Int), 0 ≤ n → n ≤ 10000009 → 0 ≤ (numAt n l).1 ∧ (numAt n l).1 ≤ 10000009 ∧ (numAt n l).2 ≤ l.length
  | [], n, h0, h1 => ⟨h0, h1, Nat.le_refl _⟩
  | c :: r, n, h0, h1 => by
    unfold numAt
    split
    · rename_i hd
      have hc : 0 ≤ capStep n c ∧ capStep n c ≤ 10000009 := by
        unfold capStep isDig at *
        split <;> omega
      obtain ⟨a, b, d⟩ := numAt_bound r (capStep n c) hc.1 hc.2
      exact ⟨a, b, by simp; omega⟩
    · exact ⟨h0, h1, Nat.zero_le _⟩

theorem numAt_digits : ∀ (l : List UInt8) (rest : List UInt8) (n : Nat), (∀ c ∈ l, isDig c) → (∀ c, rest.head? = some c → ¬ isDig c) → l.foldl dval n ≤ 1000000 →
    numAt (n : Int) (l ++ rest) = (((l.foldl dval n : Nat) : Int), l.length)
  | [], rest, n, _, hr, _ => by
    match rest, hr with
    | [], _ => rfl
    | c :: r, hr => exact numAt_no (hr c rfl)
  | c :: r, rest, n, hd, hr, hb => by
    have hc := hd c (by simp)
    have hge := foldl_ge r (dval n c)
    simp only [List.foldl_cons] at hb
    have hst : capStep (n : Int) c = ((dval n c : Nat) : Int) := by
      unfold capStep dval isDig at *
      rw [if_pos (by omega)]; omega
    have ih := numAt_digits r rest (dval n c) (fun x hx => hd x (by simp [hx])) hr hb
    rw [List.cons_append, numAt_yes hc, hst, ih]
    rfl

theorem numAt_itoa {n : Int} (h0 : 0 ≤ n) (h1 : n ≤ 1000000) (rest : List UInt8) (hr : ∀ c, rest.head? = some c → ¬ isDig c) : numAt 0 (Lib.itoa n ++ rest) = (n, (Lib.itoa n).length) := by
  rw [itoa_nat h0]
  obtain ⟨p1, p2, p3, p4⟩ := decDigits_props n.toNat
  have hle : (Lib.decDigits n.toNat).foldl dval 0 ≤ 1000000 := by
    show digs _ ≤ _
    rw [p4]; omega
  have := numAt_digits (Lib.decDigits n.toNat) rest 0 p1 hr hle
  rw [show ((0 : Nat) : Int) = 0 from rfl] at this
  rw [this]
  have e : (Lib.decDigits n.toNat).foldl dval 0 = n.toNat := p4
  rw [e]
  congr 1
  omega

/-! ### A text cut at its spaces -/
def cutAux (cur : List UInt8) : List UInt8 → List (List UInt8)
  | [] => [cur]
  | c :: r => if c = 32 then cur :: cutAux [] r else cutAux (cur ++ [c]) r
def joinF : List (List UInt8) → List UInt8
  | [] => []
  | p :: q => p ++ q.flatMap (fun x => 32 :: x)

theorem cutAux_ne (cur s : List UInt8) : cutAux cur s ≠ [] := by
  induction s generalizing cur with
  | nil => simp [cutAux]
  | cons c r ih => unfold cutAux; split <;> simp [ih]

theorem joinF_cut (cur s : List UInt8) : joinF (cutAux cur s) = cur ++ s := by
  induction s generalizing cur with
  | nil => simp [cutAux, joinF]
  | cons c r ih =>
    unfold cutAux
    split
    · rename_i h
      have := ih []
      match hh : cutAux [] r, cutAux_ne [] r with
      | p :: q, _ =>
        rw [hh] at this
        simp only [joinF, List.nil_append] at this
        simp only [joinF, List.flatMap_cons, h, List.cons_append, this]
    · rw [ih]; simp

theorem cutAux_app (cur x r : List UInt8) (hx : ∀ c ∈ x, c ≠ 32) : cutAux cur (x ++ r) = cutAux (cur ++ x) r := by
  induction x generalizing cur with
  | nil => simp
  | cons c t ih =>
    have hc := hx c (by simp)
    simp only [List.cons_append, cutAux, if_neg hc]
    rw [ih _ (fun y hy => hx y (by simp [hy]))]
    simp

theorem cut_join : ∀ (ps : List (List UInt8)) (p : List UInt8), (∀ q ∈ p :: ps, ∀ c ∈ q, c ≠ 32) → cutAux [] (joinF (p :: ps)) = p :: ps
  | [], p, h => by
    have := cutAux_app [] p [] (h p (by simp))
    simp only [joinF, List.flatMap_nil, List.append_nil] at this ⊢
    rw [this]; simp [cutAux]
  | q :: ps, p, h => by
    have ih := cut_join ps q (fun x hx => h x (by simp at hx ⊢; exact Or.inr hx))
    have := cutAux_app [] p (32 :: joinF (q :: ps)) (h p (by simp))
    have e : joinF (p :: q :: ps) = p ++ 32 :: joinF (q :: ps) := by simp [joinF]
    rw [e, this]
    simp only [List.nil_append, cutAux, if_true]
    rw [ih]

/-! ### Which bytes -/
theorem letB_props {e : Int} : 48 ≤ 48 ∧ letB e ≠ 32 ∧ letB e ≠ 61 ∧ ¬ isDig (letB e) := by
  by_cases h : 0 ≤ e ∧ e < 5
  · obtain ⟨i, rfl⟩ := Int.eq_ofNat_of_zero_le h.1
    have hi : i = 0 ∨ i = 1 ∨ i = 2 ∨ i = 3 ∨ i = 4 := by omega
    rcases hi with rfl | rfl | rfl | rfl | rfl <;> decide
  · rw [letB_no h]; decide

theorem itoa_chars {n : Int} : ∀ c ∈ Lib.itoa n, c = 45 ∨ isDig c := by
  intro c hc
  unfold Lib.itoa at hc
  split at hc
  · simp only [List.mem_cons] at hc
    rcases hc with rfl | hc
    · exact Or.inl rfl
    · exact Or.inr ((decDigits_props _).1 c hc)
  · exact Or.inr ((decDigits_props _).1 c hc)
end Go.Proofs.YtjaneedmhekheaaDoor
