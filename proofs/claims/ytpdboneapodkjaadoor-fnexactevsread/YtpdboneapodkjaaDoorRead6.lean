/- The specification's cutting of a text at its spaces. -/
import Derived.Test.YtpdboneapodkjaaDoorRead5
namespace Go.Proofs.YtpdboneapodkjaaDoor
open Go.ChangeShapes Go.WideShapes Go.ChangeAt Go.RowKit
set_option linter.unusedVariables false

def CutInv (s : ByteArray) (i f : Nat) (ps : List ByteArray) : Prop :=
  (i ≤ s.size → cutAux [] (bs s) = ps.map bs ++ cutAux (((bs s).drop f).take (i - f)) ((bs s).drop i)) ∧ (¬ i ≤ s.size → cutAux [] (bs s) = ps.map bs)

theorem cut_go {s : ByteArray} {i f : Nat} {ps : List ByteArray} (h : CutInv s i f ps) (hi : i < s.size) (hf : f ≤ i) (hc : s[i] ≠ 32) : CutInv s (i + 1) f ps := by
  refine ⟨fun _ => ?_, fun h1 => absurd hi (by omega)⟩
  rw [h.1 (by omega), bs_drop s hi]
  simp only [cutAux, if_neg hc]
  congr 2
  rw [show i + 1 - f = (i - f) + 1 by omega, List.take_succ_eq_append_getElem (by rw [List.length_drop, bs_len]; omega)]
  congr 2
  rw [List.getElem_drop]
  show s[i] = (bs s)[f + (i - f)]'_
  have e : f + (i - f) = i := by omega
  simp only [e]
  rfl
theorem cut_put {s : ByteArray} {i f : Nat} {ps : List ByteArray} (h : CutInv s i f ps) (hi : i < s.size) (hf : f ≤ i) (hc : s[i] = 32) : CutInv s (i + 1) (i + 1) (ps ++ [s.extract f i]) := by
  refine ⟨fun _ => ?_, fun h1 => absurd hi (by omega)⟩
  rw [h.1 (by omega), bs_drop s hi]
  simp only [cutAux, if_pos hc, List.map_append, List.map_cons, List.map_nil, bs_extract, Nat.sub_self, List.take_zero, List.append_assoc, List.cons_append, List.nil_append]
theorem cut_fin {s : ByteArray} {i f : Nat} {ps : List ByteArray} (h : CutInv s i f ps) (hi : i = s.size) (hf : f ≤ i) : CutInv s (i + 1) (i + 1) (ps ++ [s.extract f i]) := by
  refine ⟨fun h1 => absurd h1 (by omega), fun _ => ?_⟩
  have e : (bs s).drop i = [] := List.drop_eq_nil_of_le (by rw [bs_len]; omega)
  rw [h.1 (by omega), e]
  simp only [cutAux, List.map_append, List.map_cons, List.map_nil, bs_extract]

theorem strCellsL_snoc (ps : List ByteArray) (p : ByteArray) : strCellsL (ps ++ [p]) = strCellsL ps ++ [.string p] := by simp [strCellsL]
theorem new_str (w : World) (p : ByteArray) (t : TypeId) : ∀ j u, ([.string p] : List Value)[j]? = some u → (w.alloc (.cells #[.string p] t)).cell? ((⟨w.heap.size, 0, none⟩ : Addr).add j) = some u := by
  intro j u hj
  match j, hj with
  | 0, hj => simp at hj; subst hj; simp [Addr.add]

set_option maxHeartbeats 2000000 in
theorem l14Cut_any (s : ByteArray) (w : World) (hs : s.size ≤ 1048576) :
    Calls Tryd.prog 23 #[.string s, .int .u8 32] w fun e w' => ∃ (v : Value) (ps : List ByteArray), e = .returned v ∧ w'.ownsRow w.heap.size 9 1 v ps.length (strCellsL ps) ∧ Hid (ps.map bs = cutAux [] (bs s)) ∧ ps.length ≤ s.size + 1 ∧ Below w.heap.size w w' := by
  obtain ⟨i0, hi, hz0, hz1, hz2⟩ := info_str_parts
  go_enter Tryd.func23, Tryd.ntmps23
  go_wp2
  go_loopw [5, 6, 7] (fun v fr i wr => ∃ (k f : Nat) (ps : List ByteArray), k ≤ s.size + 1 ∧ f ≤ k ∧ ps.length ≤ k ∧ fr = .int .i64 f ∧ i = .int .i64 k ∧ wr.ownsRow w.heap.size 9 1 v ps.length (strCellsL ps) ∧ Hid (CutInv s k f ps) ∧ Below w.heap.size w wr) (fun _ _ i _ => s.size + 1 - (intOf i).toNat)
  case atStart => exact ⟨0, 0, [], Nat.zero_le _, Nat.le_refl _, Nat.le_refl _, rfl, rfl, World.ownsRow_made _ _ _ (Nat.le_refl _) (by simp [maxLen]) rfl, ⟨fun _ => by simp, fun h => absurd (Nat.zero_le _) h⟩, (Below.refl _ _).alloc (Nat.le_refl _) _⟩
  case round =>
    obtain ⟨k, f, ps, hk, hf, hpl, rfl, rfl, hown, hinv, hb⟩ := hrel
    have hsz := hb.size
    by_cases hle : k ≤ s.size
    · by_cases hlt : k < s.size
      · have hne : ((k : Int) == (s.size : Int)) = false := by rw [beq_eq_false_iff_ne]; omega
        cases h32 : ((s[k].toNat : Int) == 32)
        · have hc : Hid (s[k] ≠ 32) := u8_ne (n := 32) h32 (by decide)
          go_wp2
          exact ⟨⟨k + 1, f, ps, by omega, by omega, by omega, rfl, by go_num, hown, cut_go hinv.out hlt hf hc.out, hb⟩, by simp [intOf]; omega⟩
        · have hc : Hid (s[k] = 32) := u8_eq (n := 32) h32 (by decide)
          go_wp2_with (at_builtin; refine wpList_append_own _ rfl _ _ 50 rfl w.heap.size 9 i0 (.string ByteArray.empty) 1 16 Tryd.underlying50 hi hz0 hz1 hz2 rfl (by decide) _ _ _ rfl (hown.alloc _) ⟨wr.heap.size, 0, none⟩ 1 1 [.string (s.extract f k)] rfl rfl ?c1 ?c2 ?c3 ?c4 ?c5 ?_)
          case c1 => exact new_str wr (s.extract f k) 9
          case c2 => intro u hu; simp at hu; subst hu; rfl
          case c3 => unfold maxLen; omega
          case c4 => omega
          case c5 => simp; omega
          intro v' w3 hown' hgr _
          have hbe3 : Below w.heap.size w w3 := (hb.alloc hsz _).grown hgr (by simp; omega) (fun x hx => (hown.lt x hx).1)
          go_wp2
          refine ⟨⟨k + 1, k + 1, ps ++ [s.extract f k], by omega, by omega, by simp; omega, by go_num, by go_num, ?_, cut_put hinv.out hlt hf hc.out, hbe3⟩, by simp [intOf]; omega⟩
          rw [strCellsL_snoc, List.length_append]; exact hown'
      · have hks : Hid (k = s.size) := by show _ = _; omega
        have heq : ((k : Int) == (s.size : Int)) = true := by simp; omega
        go_wp2_with (at_builtin; refine wpList_append_own _ rfl _ _ 50 rfl w.heap.size 9 i0 (.string ByteArray.empty) 1 16 Tryd.underlying50 hi hz0 hz1 hz2 rfl (by decide) _ _ _ rfl (hown.alloc _) ⟨wr.heap.size, 0, none⟩ 1 1 [.string (s.extract f k)] rfl rfl ?c1 ?c2 ?c3 ?c4 ?c5 ?_)
        case c1 => exact new_str wr (s.extract f k) 9
        case c2 => intro u hu; simp at hu; subst hu; rfl
        case c3 => unfold maxLen; omega
        case c4 => omega
        case c5 => simp; omega
        intro v' w3 hown' hgr _
        have hbe3 : Below w.heap.size w w3 := (hb.alloc hsz _).grown hgr (by simp; omega) (fun x hx => (hown.lt x hx).1)
        go_wp2
        refine ⟨⟨k + 1, k + 1, ps ++ [s.extract f k], by omega, by omega, by simp; omega, by go_num, by go_num, ?_, cut_fin hinv.out hks.out hf, hbe3⟩, by simp [intOf]; omega⟩
        rw [strCellsL_snoc, List.length_append]; exact hown'
    · go_wp2
      go_ret
      exact ⟨_, ps, rfl, hown, (hinv.out.2 hle).symm, by omega, hb⟩

/-- What the specification finds in one word. -/
def OnePost (t : List UInt8) (e : Ev) (ok : Bool) : Prop :=
  (ok = true → evText e = t) ∧ ∀ x : Ev, evOkB x.sym x.at' x.val = true → evText x = t → ok = true ∧ e = x

theorem itoa_ne (n : Int) : Lib.itoa n ≠ [] := by
  unfold Lib.itoa
  split
  · simp
  · exact (decDigits_props _).2.1
theorem itoa_no61 (n : Int) : ∀ c ∈ Lib.itoa n, c ≠ 61 := by
  intro c hc e
  subst e
  rcases itoa_chars _ hc with h | h
  · revert h; decide
  · revert h; decide
theorem letB_range {x : Int} (h : 0 ≤ x ∧ x < 5) : 97 ≤ (letB x).toNat ∧ (letB x).toNat ≤ 101 ∧ ((letB x).toNat : Int) - 97 = x := by
  obtain ⟨i, rfl⟩ := Int.eq_ofNat_of_zero_le h.1
  have hi : i = 0 ∨ i = 1 ∨ i = 2 ∨ i = 3 ∨ i = 4 := by omega
  rcases hi with rfl | rfl | rfl | rfl | rfl <;> decide
theorem letB_sub {c : UInt8} (h : 97 ≤ c.toNat ∧ c.toNat ≤ 101) : letB ((c.toNat : Int) - 97) = c := by
  unfold letB
  rw [if_pos (by omega)]
  have : 97 + ((c.toNat : Int) - 97).toNat = c.toNat := by omega
  rw [this]; simp

theorem one_short {t : List UInt8} {e : Ev} (h : t.length < 2) : OnePost t e false := by
  refine ⟨fun h => (by cases h), fun x hx ht => ?_⟩
  have := congrArg List.length ht
  have h2 := List.length_pos_iff.2 (itoa_ne x.at')
  simp only [evText, List.length_cons, List.length_append] at this
  omega
theorem one_letter {t : List UInt8} {c : UInt8} {e : Ev} (hc : t.head? = some c) (h : ¬ (97 ≤ c.toNat ∧ c.toNat ≤ 101)) : OnePost t e false := by
  refine ⟨fun h => (by cases h), fun x hx ht => ?_⟩
  rw [← ht] at hc
  simp only [evText, List.head?_cons, Option.some.injEq] at hc
  have h1 := ok_parts hx
  have h2 := letB_range ⟨h1.1, h1.2.1⟩
  rw [hc] at h2
  exact absurd ⟨h2.1, h2.2.1⟩ h

theorem ev_eq {a b : Ev} (h1 : a.sym = b.sym) (h2 : a.at' = b.at') (h3 : a.val = b.val) : a = b := by cases a; cases b; simp_all

theorem one_plain {c : UInt8} {r : List UInt8} (hc : 97 ≤ c.toNat ∧ c.toNat ≤ 101) (h61 : ∀ x ∈ c :: r, x ≠ 61) :
    OnePost (c :: r) ⟨(c.toNat : Int) - 97, (numF r).getD 0, 0⟩ (numF r).isSome := by
  refine ⟨fun h => ?_, fun x hx ht => ?_⟩
  · obtain ⟨n, hn⟩ := Option.isSome_iff_exists.1 h
    rw [hn]
    simp only [evText, Option.getD_some, if_true, List.append_nil, letB_sub hc, numF_sound hn]
  · have h1 := ok_parts hx
    have hv : x.val = 0 := by
      refine Classical.byContradiction fun hv => ?_
      refine h61 61 ?_ rfl
      rw [← ht]
      simp [evText, hv]
    have et : evText x = letB x.sym :: Lib.itoa x.at' := by simp [evText, hv]
    rw [et] at ht
    injection ht with t1 t2
    have hn := numF_complete (n := x.at') (by omega) (by omega)
    rw [t2] at hn
    rw [hn]
    refine ⟨rfl, ev_eq ?_ rfl hv.symm⟩
    rw [← t1]
    exact (letB_range ⟨h1.1, h1.2.1⟩).2.2

theorem split61 : ∀ {p p' q q' : List UInt8}, (∀ x ∈ p, x ≠ 61) → (∀ x ∈ p', x ≠ 61) → p ++ 61 :: q = p' ++ 61 :: q' → p = p' ∧ q = q'
  | [], [], q, q', _, _, h => by simpa using h
  | [], x :: p', q, q', _, h2, h => by
    simp only [List.nil_append, List.cons_append, List.cons.injEq] at h
    exact absurd h.1.symm (h2 x (by simp))
  | x :: p, [], q, q', h1, _, h => by
    simp only [List.nil_append, List.cons_append, List.cons.injEq] at h
    exact absurd h.1 (h1 x (by simp))
  | x :: p, y :: p', q, q', h1, h2, h => by
    simp only [List.cons_append, List.cons.injEq] at h
    obtain ⟨a, b⟩ := split61 (fun z hz => h1 z (by simp [hz])) (fun z hz => h2 z (by simp [hz])) h.2
    exact ⟨by rw [h.1, a], b⟩

theorem one_val {c : UInt8} {r q : List UInt8} (hc : 97 ≤ c.toNat ∧ c.toNat ≤ 101) (h61 : ∀ x ∈ c :: r, x ≠ 61) :
    OnePost (c :: r ++ 61 :: q) ⟨(c.toNat : Int) - 97, (numF r).getD 0, (numF q).getD 0⟩ (((numF q).isSome && ((numF q).getD 0 != 0)) && (numF r).isSome) := by
  refine ⟨fun h => ?_, fun x hx ht => ?_⟩
  · simp only [Bool.and_eq_true] at h
    obtain ⟨⟨h1, h2⟩, h3⟩ := h
    obtain ⟨n, hn⟩ := Option.isSome_iff_exists.1 h3
    obtain ⟨v, hv⟩ := Option.isSome_iff_exists.1 h1
    rw [hv] at h2
    rw [hn, hv]
    have hv0 : ¬ v = 0 := by simpa using h2
    simp only [evText, Option.getD_some, if_neg hv0, letB_sub hc, numF_sound hn, numF_sound hv, List.cons_append]
  · have h1 := ok_parts hx
    have hl := letB_props (e := x.sym)
    have hp : ∀ y ∈ letB x.sym :: Lib.itoa x.at', y ≠ 61 := by
      intro y hy
      simp only [List.mem_cons] at hy
      rcases hy with rfl | hy
      · exact hl.2.2.1
      · exact itoa_no61 _ y hy
    have hv : ¬ x.val = 0 := by
      intro hv
      have et : evText x = letB x.sym :: Lib.itoa x.at' := by simp [evText, hv]
      rw [et] at ht
      refine hp 61 ?_ rfl
      rw [ht]; simp
    have et : evText x = (letB x.sym :: Lib.itoa x.at') ++ 61 :: Lib.itoa x.val := by simp [evText, hv]
    rw [et] at ht
    obtain ⟨e1, e2⟩ := split61 hp h61 ht
    injection e1 with t1 t2
    have hn := numF_complete (n := x.at') (by omega) (by omega)
    have hm := numF_complete (n := x.val) (by omega) (by omega)
    rw [t2] at hn
    rw [e2] at hm
    rw [hn, hm]
    refine ⟨by simp [hv], ev_eq ?_ rfl rfl⟩
    rw [← t1]
    exact (letB_range ⟨h1.1, h1.2.1⟩).2.2
end Go.Proofs.YtpdboneapodkjaaDoor
