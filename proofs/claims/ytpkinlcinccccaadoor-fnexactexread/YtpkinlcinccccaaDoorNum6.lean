/- The specification's cutting of a text at its spaces. -/
import Derived.Test.YtpkinlcinccccaaDoorNum5
namespace Go.Proofs.YtpkinlcinccccaaDoor
open Go.ChangeShapes Go.WideShapes Go.ChangeAt Go.RowKit
set_option linter.unusedVariables false

def CutInv (s : ByteArray) (i f : Nat) (ps : List ByteArray) : Prop :=
  (i ≤ s.size → cutAux [] (bs s) = ps.map bs ++ cutAux (((bs s).drop f).take (i - f)) ((bs s).drop i)) ∧ (¬ i ≤ s.size → cutAux [] (bs s) = ps.map bs)

theorem cut_go {s : ByteArray} {i f : Nat} {ps : List ByteArray} (h : CutInv s i f ps) (hi : i < s.size) (hf : f ≤ i) (hc : s[i] ≠ 32) : CutInv s (i + 1) f ps := by
  refine ⟨fun _ => ?_, fun h1 => absurd hi (by omega)⟩
  rw [h.1 (by omega), bs_drop s hi]
  simp only [cutAux, if_neg hc]
  congr 2
  rw [show i + 1 - f = (i - f) + 1 by omega, List.take_succ_eq_append_getElem (by rw [List.length_drop, bs_len]; omega)]
  congr 2
  rw [List.getElem_drop]
  show s[i] = (bs s)[f + (i - f)]'_
  have e : f + (i - f) = i := by omega
  simp only [e]
  rfl
theorem cut_put {s : ByteArray} {i f : Nat} {ps : List ByteArray} (h : CutInv s i f ps) (hi : i < s.size) (hf : f ≤ i) (hc : s[i] = 32) : CutInv s (i + 1) (i + 1) (ps ++ [s.extract f i]) := by
  refine ⟨fun _ => ?_, fun h1 => absurd hi (by omega)⟩
  rw [h.1 (by omega), bs_drop s hi]
  simp only [cutAux, if_pos hc, List.map_append, List.map_cons, List.map_nil, bs_extract, Nat.sub_self, List.take_zero, List.append_assoc, List.cons_append, List.nil_append]
theorem cut_fin {s : ByteArray} {i f : Nat} {ps : List ByteArray} (h : CutInv s i f ps) (hi : i = s.size) (hf : f ≤ i) : CutInv s (i + 1) (i + 1) (ps ++ [s.extract f i]) := by
  refine ⟨fun h1 => absurd h1 (by omega), fun _ => ?_⟩
  have e : (bs s).drop i = [] := List.drop_eq_nil_of_le (by rw [bs_len]; omega)
  rw [h.1 (by omega), e]
  simp only [cutAux, List.map_append, List.map_cons, List.map_nil, bs_extract]

theorem strCellsL_snoc (ps : List ByteArray) (p : ByteArray) : strCellsL (ps ++ [p]) = strCellsL ps ++ [.string p] := by simp [strCellsL]

set_option maxHeartbeats 2000000 in
theorem l14Cut_any (s : ByteArray) (w : World) (hs : s.size ≤ 1048576) :
    Calls Tryd.prog 22 #[.string s, .int .u8 32] w fun e w' => ∃ (v : Value) (ps : List ByteArray), e = .returned v ∧ w'.ownsRow w.heap.size 9 1 v ps.length (strCellsL ps) ∧ Hid (ps.map bs = cutAux [] (bs s)) ∧ ps.length ≤ s.size + 1 ∧ Below w.heap.size w w' := by
  obtain ⟨i0, hi, hz0, hz1, hz2⟩ := info_str_parts
  go_enter Tryd.func22, Tryd.ntmps22
  go_wp2
  go_loopw [5, 6, 7] (fun v fr i wr => ∃ (k f : Nat) (ps : List ByteArray), k ≤ s.size + 1 ∧ f ≤ k ∧ ps.length ≤ k ∧ fr = .int .i64 f ∧ i = .int .i64 k ∧ wr.ownsRow w.heap.size 9 1 v ps.length (strCellsL ps) ∧ Hid (CutInv s k f ps) ∧ Below w.heap.size w wr) (fun _ _ i _ => s.size + 1 - (intOf i).toNat)
  case atStart => exact ⟨0, 0, [], Nat.zero_le _, Nat.le_refl _, Nat.le_refl _, rfl, rfl, World.ownsRow_made _ _ _ (Nat.le_refl _) (by simp [maxLen]) rfl, ⟨fun _ => by simp, fun h => absurd (Nat.zero_le _) h⟩, (Below.refl _ _).alloc (Nat.le_refl _) _⟩
  case round =>
    obtain ⟨k, f, ps, hk, hf, hpl, rfl, rfl, hown, hinv, hb⟩ := hrel
    have hsz := hb.size
    by_cases hle : k ≤ s.size
    · by_cases hlt : k < s.size
      · have hne : ((k : Int) == (s.size : Int)) = false := by rw [beq_eq_false_iff_ne]; omega
        cases h32 : ((s[k].toNat : Int) == 32)
        · have hc : Hid (s[k] ≠ 32) := u8_ne (n := 32) h32 (by decide)
          go_wp2
          exact ⟨⟨k + 1, f, ps, by omega, by omega, by omega, rfl, by go_num, hown, cut_go hinv.out hlt hf hc.out, hb⟩, by simp [intOf]; omega⟩
        · have hc : Hid (s[k] = 32) := u8_eq (n := 32) h32 (by decide)
          go_wp2_with (at_builtin; refine wpList_append_own _ rfl _ _ 40 rfl w.heap.size 9 i0 (.string ByteArray.empty) 1 16 Tryd.underlying40 hi hz0 hz1 hz2 rfl (by decide) _ _ _ rfl (hown.alloc _) ⟨wr.heap.size, 0, none⟩ 1 1 [.string (s.extract f k)] rfl rfl ?c1 ?c2 ?c3 ?c4 ?c5 ?_)
          case c1 => exact new_str wr (s.extract f k) 9
          case c2 => intro u hu; simp at hu; subst hu; rfl
          case c3 => unfold maxLen; omega
          case c4 => omega
          case c5 => simp; omega
          intro v' w3 hown' hgr _
          have hbe3 : Below w.heap.size w w3 := (hb.alloc hsz _).grown hgr (by simp; omega) (fun x hx => (hown.lt x hx).1)
          go_wp2
          refine ⟨⟨k + 1, k + 1, ps ++ [s.extract f k], by omega, by omega, by simp; omega, by go_num, by go_num, ?_, cut_put hinv.out hlt hf hc.out, hbe3⟩, by simp [intOf]; omega⟩
          rw [strCellsL_snoc, List.length_append]; exact hown'
      · have hks : Hid (k = s.size) := by show _ = _; omega
        have heq : ((k : Int) == (s.size : Int)) = true := by simp; omega
        go_wp2_with (at_builtin; refine wpList_append_own _ rfl _ _ 40 rfl w.heap.size 9 i0 (.string ByteArray.empty) 1 16 Tryd.underlying40 hi hz0 hz1 hz2 rfl (by decide) _ _ _ rfl (hown.alloc _) ⟨wr.heap.size, 0, none⟩ 1 1 [.string (s.extract f k)] rfl rfl ?c1 ?c2 ?c3 ?c4 ?c5 ?_)
        case c1 => exact new_str wr (s.extract f k) 9
        case c2 => intro u hu; simp at hu; subst hu; rfl
        case c3 => unfold maxLen; omega
        case c4 => omega
        case c5 => simp; omega
        intro v' w3 hown' hgr _
        have hbe3 : Below w.heap.size w w3 := (hb.alloc hsz _).grown hgr (by simp; omega) (fun x hx => (hown.lt x hx).1)
        go_wp2
        refine ⟨⟨k + 1, k + 1, ps ++ [s.extract f k], by omega, by omega, by simp; omega, by go_num, by go_num, ?_, cut_fin hinv.out hks.out hf, hbe3⟩, by simp [intOf]; omega⟩
        rw [strCellsL_snoc, List.length_append]; exact hown'
    · go_wp2
      go_ret
      exact ⟨_, ps, rfl, hown, (hinv.out.2 hle).symm, by omega, hb⟩

theorem itoa_ne (n : Int) : Lib.itoa n ≠ [] := by
  unfold Lib.itoa
  split
  · simp
  · exact (decDigits_props _).2.1
theorem itoa_no61 (n : Int) : ∀ c ∈ Lib.itoa n, c ≠ 61 := by
  intro c hc e
  subst e
  rcases itoa_chars _ hc with h | h
  · revert h; decide
  · revert h; decide
theorem letB_range {x : Int} (h : 0 ≤ x ∧ x < 5) : 97 ≤ (letB x).toNat ∧ (letB x).toNat ≤ 101 ∧ ((letB x).toNat : Int) - 97 = x := by
  obtain ⟨i, rfl⟩ := Int.eq_ofNat_of_zero_le h.1
  have hi : i = 0 ∨ i = 1 ∨ i = 2 ∨ i = 3 ∨ i = 4 := by omega
  rcases hi with rfl | rfl | rfl | rfl | rfl <;> decide
theorem letB_sub {c : UInt8} (h : 97 ≤ c.toNat ∧ c.toNat ≤ 101) : letB ((c.toNat : Int) - 97) = c := by
  unfold letB
  rw [if_pos (by omega)]
  have : 97 + ((c.toNat : Int) - 97).toNat = c.toNat := by omega
  rw [this]; simp
end Go.Proofs.YtpkinlcinccccaaDoor
