/- What the specification finds ahead of the parts, at any place among words, as the plain reader says it. -/
import Derived.Test.YtpkinlcinccccaaDoorExRd2
namespace Go.Proofs.YtpkinlcinccccaaDoor
open Go.ChangeShapes Go.WideShapes Go.ChangeAt Go.RowKit
set_option linter.unusedVariables false
set_option maxRecDepth 4000
theorem bs_one {s : ByteArray} (h : s.size = 1) : bs s = [s[0]] := by
  have h0 := bs_drop s (k := 0) (by omega)
  rw [List.drop_zero] at h0
  have h1 : (bs s).drop 1 = [] := List.drop_eq_nil_of_le (by rw [bs_len]; omega)
  rw [h0]
  simp only [Nat.zero_add, h1]
theorem nolet_sym {s : ByteArray} (h : NoLet s) : symW (bs s) = -1 := by
  by_cases h1 : s.size = 1
  · rw [bs_one h1]
    show symB s[0] = -1
    unfold symB
    rw [if_neg]
    rintro ⟨h2, h3⟩
    rcases h with h | ⟨_, h⟩ | ⟨_, _, h⟩ <;> omega
  · have hl := bs_len s
    cases hb : bs s with
    | nil => rfl
    | cons c t =>
      cases t with
      | nil => rw [hb] at hl; simp at hl; omega
      | cons d u => rfl
theorem drop_words (ps : List ByteArray) (k : Nat) (hk : k < ps.length) : (ps.map bs).drop k = bs ps[k] :: (ps.map bs).drop (k + 1) := by
  rw [List.drop_eq_getElem_cons (by simpa using hk)]; simp
def HeadIs (ps : List ByteArray) (k : Nat) (kd sy n t : Int) : Prop :=
  (headR numF ((ps.map bs).drop k) = none ∧ t = -1) ∨ ∃ j : Nat, headR numF ((ps.map bs).drop k) = some (kd, sy, n, (ps.map bs).drop j) ∧ k < j ∧ j ≤ ps.length ∧ t = j
def HeadPost (ps : List ByteArray) (k : Nat) (w : World) (e : Ending) (w' : World) : Prop :=
  ∃ (kd sy n t : Int), e = .returned (.tuple #[.agg #[.int .i64 kd, .int .i64 sy, .int .i64 n, .slice none 0 0], .int .i64 t]) ∧ Below w.heap.size w w' ∧ Hid (HeadIs ps k kd sy n t)
theorem specHead_any (ps : List ByteArray) (g cap k : Nat) (w : World) (hp : Pieces w g ps) (hk : k < ps.length) (hlen : ps.length ≤ 1000) (hsz : ∀ p ∈ ps, p.size ≤ 1048576) :
    Calls Tryd.prog 37 #[.slice (some ⟨g, 0, none⟩) ps.length cap, .int .i64 k] w (HeadPost ps k w) := by
  have hd := drop_words ps k hk
  by_cases hl : ∃ h1 : ps[k].size = 1, 97 ≤ (ps[k][0].toNat : Int) ∧ (ps[k][0].toNat : Int) ≤ 101
  · obtain ⟨h1, hr⟩ := hl
    refine (head_letter ps[k] g ps.length cap k w hp.lt (hp.cell hk) hk hlen h1 hr).mono ?_
    rintro e w' ⟨rfl, hb⟩
    refine ⟨_, _, _, _, rfl, hb, Or.inr ⟨k + 1, ?_, by omega, by omega, by omega⟩⟩
    have hs : symW (bs ps[k]) = (ps[k][0].toNat : Int) - 97 := by
      rw [bs_one h1]
      show symB ps[k][0] = _
      unfold symB
      exact if_pos ⟨by omega, by omega⟩
    rw [hd, headR_cons, if_pos (by rw [hs]; omega), hs]
  · have hn : NoLet ps[k] := by
      by_cases h1 : ps[k].size = 1
      · by_cases h2 : 97 ≤ (ps[k][0].toNat : Int)
        · exact Or.inr (Or.inr ⟨h1, h2, fun h3 => hl ⟨h1, h2, h3⟩⟩)
        · exact Or.inr (Or.inl ⟨h1, h2⟩)
      · exact Or.inl h1
    have hs : ¬ 0 ≤ symW (bs ps[k]) := by rw [nolet_sym hn]; decide
    by_cases hk7 : kindW (bs ps[k]) = 7
    · have h70 : ¬ kindW (bs ps[k]) = 0 := by omega
      by_cases hk1 : k + 1 < ps.length
      · have hd1 := drop_words ps (k + 1) hk1
        refine (head_plus ps[k] g ps.length cap k w hp.lt (hp.cell hk) hk hlen hk7 (numF (bs ps[k + 1])) (Or.inr ⟨_, rfl, hk1, hp.cell hk1, hsz _ (List.getElem_mem _)⟩)).mono ?_
        rintro e w' ⟨rfl, hb⟩
        cases hq : numF (bs ps[k + 1]) with
        | none =>
          refine ⟨_, _, _, _, rfl, hb, Or.inl ⟨?_, rfl⟩⟩
          rw [hd, headR_cons, if_neg hs, if_neg h70, if_pos hk7, hd1]
          simp [hq]
        | some n =>
          refine ⟨_, _, _, _, rfl, hb, Or.inr ⟨k + 2, ?_, by omega, by omega, by show (k : Int) + 2 = _; omega⟩⟩
          rw [hd, headR_cons, if_neg hs, if_neg h70, if_pos hk7, hd1]
          simp [hq]
      · refine (head_plus ps[k] g ps.length cap k w hp.lt (hp.cell hk) hk hlen hk7 none (Or.inl ⟨rfl, by omega⟩)).mono ?_
        rintro e w' ⟨rfl, hb⟩
        refine ⟨_, _, _, _, rfl, hb, Or.inl ⟨?_, rfl⟩⟩
        have hd1 : (ps.map bs).drop (k + 1) = [] := List.drop_eq_nil_of_le (by rw [List.length_map]; omega)
        rw [hd, headR_cons, if_neg hs, if_neg h70, if_pos hk7, hd1]
    · refine (head_words ps[k] g ps.length cap k w hp.lt (hp.cell hk) hk hlen hn hk7).mono ?_
      rintro e w' ⟨rfl, hb⟩
      by_cases h0 : kindW (bs ps[k]) = 0
      · refine ⟨_, _, _, _, rfl, hb, Or.inl ⟨?_, if_pos h0⟩⟩
        rw [hd, headR_cons, if_neg hs, if_pos h0]
      · refine ⟨_, _, _, _, rfl, hb, Or.inr ⟨k + 1, ?_, by omega, by omega, by rw [if_neg h0]; omega⟩⟩
        rw [hd, headR_cons, if_neg hs, if_neg h0, if_neg hk7]
end Go.Proofs.YtpkinlcinccccaaDoor
