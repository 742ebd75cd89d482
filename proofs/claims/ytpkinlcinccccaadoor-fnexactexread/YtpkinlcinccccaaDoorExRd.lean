/- Words read back to what is looked for: plain mathematics. No program. -/
import Derived.Test.YtpkinlcinccccaaDoorExT1
import Derived.Test.YtpkinlcinccccaaDoorNum6
namespace Go.Proofs.YtpkinlcinccccaaDoor
set_option linter.unusedVariables false

abbrev Wd := List UInt8
/-- Of which kind it is the word, or 0. -/
def kindW (v : Wd) : Int := if v = [111, 114] then 2 else if v = [97, 110, 100] then 3 else if v = [115, 101, 113] then 4 else if v = [110, 111, 116] then 5 else if v = [101, 97, 99, 104] then 6 else if v = [112, 108, 117, 115] then 7 else 0
/-- Which letter a word is, or -1. -/
def symW : Wd → Int
  | [c] => symB c
  | _ => -1
/-- What stands ahead of the kids: kind, Sym, N, and the words behind. -/
def headR (num : Wd → Option Int) : List Wd → Option (Int × Int × Int × List Wd)
  | [] => none
  | v :: r => if 0 ≤ symW v then some (1, symW v, 0, r) else if kindW v = 0 then none else if kindW v = 7 then (match r with | [] => none | u :: r' => (num u).map fun n => (7, 0, n, r')) else some (kindW v, 0, 0, r)
theorem headR_cons (num : Wd → Option Int) (v : Wd) (r : List Wd) : headR num (v :: r) = if 0 ≤ symW v then some ((1 : Int), symW v, (0 : Int), r) else if kindW v = 0 then none else if kindW v = 7 then (match r with | [] => none | u :: r' => (num u).map fun n => ((7 : Int), (0 : Int), n, r')) else some (kindW v, (0 : Int), (0 : Int), r) := by cases r <;> rfl
/-- The words that stand ahead of the kids. -/
def headW (kd sy n : Int) : List Wd := if kd = 1 then [[letB sy]] else wordB kd :: (if kd = 7 then [Lib.itoa n] else [])
def wordsF : Fo → List Wd
  | .nil => []
  | .cons kd sy n k r => headW kd sy n ++ (wordsF k ++ wordsF r)
/-- So many parts are read, none deeper than so; and the words left. -/
def scanK (num : Wd → Option Int) : Nat → Nat → List Wd → Option (Fo × List Wd)
  | _, 0, ws => some (.nil, ws)
  | 0, _ + 1, _ => none
  | d + 1, m + 1, ws => match headR num ws with
    | none => none
    | some (kd, sy, n, r) => match scanK num d (kidsOf kd).toNat r with
      | none => none
      | some (k, r') => match scanK num (d + 1) m r' with
        | none => none
        | some (R, r'') => some (.cons kd sy n k R, r'')
termination_by d m => (d, m)

theorem scanK_zero (num : Wd → Option Int) (d : Nat) (ws : List Wd) : scanK num d 0 ws = some (.nil, ws) := by
  cases d <;> simp [scanK]
theorem scanK_deep (num : Wd → Option Int) (m : Nat) (ws : List Wd) : scanK num 0 (m + 1) ws = none := by simp [scanK]
theorem scanK_none {num : Wd → Option Int} {d m : Nat} {ws : List Wd} (h : headR num ws = none) : scanK num (d + 1) (m + 1) ws = none := by
  rw [scanK, h]
theorem scanK_some {num : Wd → Option Int} {d m : Nat} {ws r : List Wd} {kd sy n : Int} (h : headR num ws = some (kd, sy, n, r)) :
    scanK num (d + 1) (m + 1) ws = (match scanK num d (kidsOf kd).toNat r with | none => none | some (k, r') => match scanK num (d + 1) m r' with | none => none | some (R, r'') => some (.cons kd sy n k R, r'')) := by
  rw [scanK, h]

theorem symB_letB {s : Int} (h : 0 ≤ s ∧ s < 5) : symB (letB s) = s := by
  obtain ⟨h1, h2, h3⟩ := letB_range h
  unfold symB
  rw [if_pos ⟨h1, h2⟩]; exact h3
theorem letB_symB {c : UInt8} (h : 0 ≤ symB c) : letB (symB c) = c := by
  unfold symB at h ⊢
  split at h
  · rename_i hc; rw [if_pos hc]; exact letB_sub hc
  · omega

theorem head_parts {kd sy n : Int} {len : Nat} (h : headB kd sy n len = true) : kidsOf kd = len ∧ 0 ≤ sy ∧ sy < 5 ∧ (kd = 1 ∨ sy = 0) ∧ (kd = 7 ∧ 1 ≤ n ∧ n ≤ 20 ∨ kd ≠ 7 ∧ n = 0) := by
  unfold headB at h
  simp only [decide_eq_true_eq] at h
  obtain ⟨h1, h2, h3, h4, h5⟩ := h
  refine ⟨h1, h2, h3, h4, ?_⟩
  split at h5
  · exact Or.inl ⟨by assumption, h5⟩
  · exact Or.inr ⟨by assumption, h5⟩

theorem head_back {num : Wd → Option Int} (hnum : ∀ n : Int, 1 ≤ n → n ≤ 20 → num (Lib.itoa n) = some n) {kd sy n : Int} {len : Nat} (h : headB kd sy n len = true) (r : List Wd) :
    headR num (headW kd sy n ++ r) = some (kd, sy, n, r) := by
  have hk := head_kd h
  obtain ⟨_, h2, h3, h4, h5⟩ := head_parts h
  have cs : kd = 1 ∨ kd = 2 ∨ kd = 3 ∨ kd = 4 ∨ kd = 5 ∨ kd = 6 ∨ kd = 7 := by omega
  rcases cs with rfl | rfl | rfl | rfl | rfl | rfl | rfl
  · have hs := symB_letB ⟨h2, h3⟩
    have hn : n = 0 := by omega
    simp [headW, headR, symW, hs, h2, hn]
  all_goals have hs : sy = 0 := by omega
  all_goals subst hs
  · have hn : n = 0 := by omega
    simp [headW, headR, symW, wordB, kindW, hn]
  · have hn : n = 0 := by omega
    simp [headW, headR, symW, wordB, kindW, hn]
  · have hn : n = 0 := by omega
    simp [headW, headR, symW, wordB, kindW, hn]
  · have hn : n = 0 := by omega
    simp [headW, headR, symW, wordB, kindW, hn]
  · have hn : n = 0 := by omega
    simp [headW, headR, symW, wordB, kindW, hn]
  · have hn := hnum n (by omega) (by omega)
    simp [headW, headR, symW, wordB, kindW, hn]

theorem scan_back {num : Wd → Option Int} (hnum : ∀ n : Int, 1 ≤ n → n ≤ 20 → num (Lib.itoa n) = some n) : ∀ (d : Nat) (F : Fo), formF d F = true → ∀ (d' : Nat), d ≤ d' → ∀ rest : List Wd, scanK num d' F.len (wordsF F ++ rest) = some (F, rest)
  | _, .nil, _, d', _, rest => by simp only [Fo.len, wordsF, List.nil_append, scanK_zero]
  | 0, .cons .., h, _, _, _ => by simp [formF] at h
  | d + 1, .cons kd sy n k r, h, 0, hd, _ => by omega
  | d + 1, .cons kd sy n k r, h, d' + 1, hd, rest => by
    simp only [formF, Bool.and_eq_true] at h
    have h1 := head_back hnum h.1.1 (wordsF k ++ (wordsF r ++ rest))
    have h2 := scan_back hnum d k h.1.2 d' (by omega) (wordsF r ++ rest)
    have h3 := scan_back hnum (d + 1) r h.2 (d' + 1) hd rest
    have hk : (kidsOf kd).toNat = k.len := by have := (head_parts h.1.1).1; omega
    have e : wordsF (.cons kd sy n k r) ++ rest = headW kd sy n ++ (wordsF k ++ (wordsF r ++ rest)) := by simp [wordsF]
    rw [e, Fo.len, scanK_some h1, hk]
    simp only [h2, h3]

theorem kindW_word {v : Wd} (h : kindW v ≠ 0) : wordB (kindW v) = v ∧ 2 ≤ kindW v ∧ kindW v ≤ 7 := by
  unfold kindW at h ⊢
  repeat' split
  all_goals first
    | (subst_vars; exact ⟨by decide, by decide, by decide⟩)
    | (exfalso; simp_all; done)
theorem head_sound {num : Wd → Option Int} {ws r : List Wd} {kd sy n : Int} (h : headR num ws = some (kd, sy, n, r)) :
    1 ≤ kd ∧ kd ≤ 7 ∧ r.length < ws.length ∧ 0 ≤ sy ∧ sy < 5 ∧ (kd ≠ 7 → ws = headW kd sy n ++ r ∧ n = 0) ∧ (kd = 7 → ∃ u, ws = wordB 7 :: u :: r ∧ num u = some n) ∧ (kd = 1 ∨ sy = 0) := by
  match ws, h with
  | v :: r0, h =>
    rw [headR_cons] at h
    split at h
    · rename_i hs
      simp only [Option.some.injEq, Prod.mk.injEq] at h
      obtain ⟨rfl, rfl, rfl, rfl⟩ := h
      match v, hs with
      | [c], hs =>
        have hlt : symB c < 5 := by unfold symB; split <;> omega
        refine ⟨by omega, by omega, by simp, hs, hlt, fun _ => ⟨?_, rfl⟩, fun h => by omega, Or.inl rfl⟩
        simp [headW, symW, letB_symB hs]
      | [], hs => simp [symW] at hs
      | _ :: _ :: _, hs => simp [symW] at hs
    · split at h
      · cases h
      · rename_i hk0
        obtain ⟨hw, hk2, hk7⟩ := kindW_word hk0
        split at h
        · rename_i hk
          match r0, h with
          | u :: r1, h =>
            obtain ⟨n', hn, h⟩ := Option.map_eq_some_iff.1 h
            simp only [Prod.mk.injEq] at h
            obtain ⟨rfl, rfl, rfl, rfl⟩ := h
            refine ⟨by omega, by omega, by simp; omega, by omega, by omega, fun h => absurd rfl h, fun _ => ⟨u, ?_, hn⟩, Or.inr rfl⟩
            rw [← hk, hw]
        · rename_i hk
          simp only [Option.some.injEq, Prod.mk.injEq] at h
          obtain ⟨rfl, rfl, rfl, rfl⟩ := h
          refine ⟨by omega, by omega, by simp, by omega, by omega, fun _ => ⟨?_, rfl⟩, fun h => absurd h hk, Or.inr rfl⟩
          unfold headW
          rw [if_neg (by omega), if_neg hk, hw]; rfl

/-- What was read has at most as many parts as words were taken. -/
theorem scan_size {num : Wd → Option Int} : ∀ (d m : Nat) (ws : List Wd) (F : Fo) (rest : List Wd), scanK num d m ws = some (F, rest) → F.len = m ∧ F.size + rest.length ≤ ws.length
  | d, 0, ws, F, rest, h => by
    rw [scanK_zero] at h
    cases h
    simp [Fo.len, Fo.size]
  | 0, m + 1, ws, F, rest, h => by rw [scanK_deep] at h; cases h
  | d + 1, m + 1, ws, F, rest, h => by
    cases hh : headR num ws with
    | none => rw [scanK_none hh] at h; cases h
    | some x =>
      obtain ⟨kd, sy, n, r⟩ := x
      rw [scanK_some hh] at h
      cases hk : scanK num d (kidsOf kd).toNat r with
      | none => simp only [hk] at h; cases h
      | some y =>
        obtain ⟨k, r'⟩ := y
        simp only [hk] at h
        cases hr : scanK num (d + 1) m r' with
        | none => simp only [hr] at h; cases h
        | some z =>
          obtain ⟨R, r''⟩ := z
          simp only [hr] at h
          cases h
          have h1 := scan_size d _ r k r' hk
          have h2 := scan_size (d + 1) m r' R rest hr
          have h3 := (head_sound hh).2.2.1
          simp only [Fo.len, Fo.size]
          omega
termination_by d m => (d, m)

theorem scan_sound {num : Wd → Option Int} (hnum : ∀ u n, num u = some n → Lib.itoa n = u) : ∀ (d m : Nat) (ws : List Wd) (F : Fo) (rest : List Wd), scanK num d m ws = some (F, rest) → ws = wordsF F ++ rest
  | d, 0, ws, F, rest, h => by
    rw [scanK_zero] at h
    cases h
    simp [wordsF]
  | 0, m + 1, ws, F, rest, h => by rw [scanK_deep] at h; cases h
  | d + 1, m + 1, ws, F, rest, h => by
    cases hh : headR num ws with
    | none => rw [scanK_none hh] at h; cases h
    | some x =>
      obtain ⟨kd, sy, n, r⟩ := x
      rw [scanK_some hh] at h
      cases hk : scanK num d (kidsOf kd).toNat r with
      | none => simp only [hk] at h; cases h
      | some y =>
        obtain ⟨k, r'⟩ := y
        simp only [hk] at h
        cases hr : scanK num (d + 1) m r' with
        | none => simp only [hr] at h; cases h
        | some z =>
          obtain ⟨R, r''⟩ := z
          simp only [hr] at h
          cases h
          have h1 := scan_sound hnum d _ r k r' hk
          have h2 := scan_sound hnum (d + 1) m r' R rest hr
          obtain ⟨_, _, _, _, _, h3, h4, _⟩ := head_sound hh
          have e : ws = headW kd sy n ++ r := by
            by_cases h7 : kd = 7
            · obtain ⟨u, e, hu⟩ := h4 h7
              subst h7
              simp [headW, e, hnum u n hu]
            · exact (h3 h7).1
          rw [e, h1, h2]
          simp [wordsF]
termination_by d m => (d, m)

/-! ### The text and the words -/
theorem text_words : ∀ (d : Nat) (F : Fo), formF d F = true → textF F = (wordsF F).flatMap fun x => 32 :: x
  | _, .nil, _ => rfl
  | 0, .cons .., h => by simp [formF] at h
  | d + 1, .cons kd sy n k r, h => by
    simp only [formF, Bool.and_eq_true] at h
    have hk := text_words d k h.1.2
    have hr := text_words (d + 1) r h.2
    have hh := head_parts h.1.1
    simp only [textF, wordsF, List.flatMap_append, ← hk, ← hr]
    by_cases h1 : kd = 1
    · subst h1
      have hl : k.len = 0 := by have := hh.1; simp [kidsOf] at this; omega
      cases k with
      | nil => simp [textF, headW]
      | cons => simp [Fo.len] at hl
    · by_cases h7 : kd = 7
      · subst h7; simp [headW]
      · simp [headW, h1, h7]
theorem textX_words {d : Nat} {kd sy n : Int} {F : Fo} (h : formX d kd sy n F = true) : textX kd sy n F = joinF (headW kd sy n ++ wordsF F) := by
  cases d with
  | zero => simp [formX] at h
  | succ d =>
    simp only [formX, Bool.and_eq_true] at h
    have hk := text_words d F h.2
    have hh := head_parts h.1
    unfold textX headW
    by_cases h1 : kd = 1
    · subst h1
      have hl : F.len = 0 := by have := hh.1; simp [kidsOf] at this; omega
      cases F with
      | nil => simp [wordsF, joinF]
      | cons => simp [Fo.len] at hl
    · by_cases h7 : kd = 7
      · subst h7; simp [joinF, hk]
      · simp [h1, h7, joinF, hk]

theorem itoa_no32 (n : Int) : ∀ c ∈ Lib.itoa n, c ≠ 32 := by
  intro c hc e
  subst e
  rcases itoa_chars _ hc with h | h
  · revert h; decide
  · revert h; decide
theorem wordB_no32 (kd : Int) : ∀ c ∈ wordB kd, c ≠ 32 := by
  unfold wordB
  repeat' split
  all_goals decide
theorem headW_no32 (kd sy n : Int) : ∀ q ∈ headW kd sy n, ∀ c ∈ q, c ≠ 32 := by
  intro q hq c hc
  unfold headW at hq
  split at hq
  · simp only [List.mem_singleton] at hq
    subst hq
    simp only [List.mem_singleton] at hc
    subst hc
    exact (letB_props (e := sy)).2.1
  · simp only [List.mem_cons] at hq
    rcases hq with rfl | hq
    · exact wordB_no32 kd c hc
    · split at hq
      · simp only [List.mem_singleton] at hq
        subst hq
        exact itoa_no32 n c hc
      · cases hq
theorem wordsF_no32 : ∀ (F : Fo), ∀ q ∈ wordsF F, ∀ c ∈ q, c ≠ 32
  | .nil, q, hq, _, _ => by simp [wordsF] at hq
  | .cons kd sy n k r, q, hq, c, hc => by
    simp only [wordsF, List.mem_append] at hq
    rcases hq with hq | hq | hq
    · exact headW_no32 kd sy n q hq c hc
    · exact wordsF_no32 k q hq c hc
    · exact wordsF_no32 r q hq c hc
theorem headW_ne (kd sy n : Int) : headW kd sy n ≠ [] := by
  unfold headW; split <;> simp

/-- The text of what can be looked for, cut at its spaces. -/
theorem cut_textX {d : Nat} {kd sy n : Int} {F : Fo} (h : formX d kd sy n F = true) : cutAux [] (textX kd sy n F) = headW kd sy n ++ wordsF F := by
  rw [textX_words h]
  have h32 : ∀ q ∈ headW kd sy n ++ wordsF F, ∀ c ∈ q, c ≠ 32 := by
    intro q hq
    rcases List.mem_append.1 hq with hq | hq
    · exact headW_no32 kd sy n q hq
    · exact wordsF_no32 F q hq
  match hw : headW kd sy n ++ wordsF F, h32 with
  | [], _ => exact absurd (List.append_eq_nil_iff.1 hw).1 (headW_ne kd sy n)
  | p :: ps, h32 => exact cut_join ps p h32

/-- It is read back, by whoever reads numbers from 1 to 20. -/
theorem scan_textX {num : Wd → Option Int} (hnum : ∀ n : Int, 1 ≤ n → n ≤ 20 → num (Lib.itoa n) = some n) {d d' : Nat} (hd : d ≤ d') {kd sy n : Int} {F : Fo} (h : formX d kd sy n F = true) :
    scanK num d' 1 (cutAux [] (textX kd sy n F)) = some (.cons kd sy n F .nil, []) := by
  have hf : formF d (.cons kd sy n F .nil) = true := by
    cases d with
    | zero => simp [formX] at h
    | succ d => simp only [formX, Bool.and_eq_true] at h; simp [formF, h]
  have := scan_back hnum d _ hf d' hd []
  rw [cut_textX h]
  simpa [wordsF, Fo.len] using this
theorem scan_empty (num : Wd → Option Int) (d : Nat) : scanK num d 1 (cutAux [] []) = none := by
  have hh : headR num [[]] = none := by simp [headR, symW, kindW]
  cases d with
  | zero => exact scanK_deep _ _ _
  | succ d => exact scanK_none hh
end Go.Proofs.YtpkinlcinccccaaDoor
