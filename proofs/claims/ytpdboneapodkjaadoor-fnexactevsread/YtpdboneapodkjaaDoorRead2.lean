/- What the program's scan of a text takes: of the text of events that are ok just those events. -/
import Derived.Test.YtpdboneapodkjaaDoorRead1
import Derived.Test.YtpdboneapodkjaaDoorEvsOwn
namespace Go.Proofs.YtpdboneapodkjaaDoor
open Go.ChangeShapes Go.WideShapes Go.ChangeAt Go.RowKit
set_option linter.unusedVariables false

/-- One event at the head of a text, and how many bytes it takes. -/
def oneAt : List UInt8 → Ev × Nat
  | [] => (⟨-1, 0, 0⟩, 0)
  | c :: r =>
    let a := numAt 0 r
    let t := r.drop a.2
    if t.head? = some 61 then (⟨symB c, a.1, (numAt 0 t.tail).1⟩, 1 + a.2 + 1 + (numAt 0 t.tail).2) else (⟨symB c, a.1, 0⟩, 1 + a.2)

theorem symB_letB {e : Int} (h : 0 ≤ e ∧ e < 5) : symB (letB e) = e := by
  obtain ⟨i, rfl⟩ := Int.eq_ofNat_of_zero_le h.1
  have hi : i = 0 ∨ i = 1 ∨ i = 2 ∨ i = 3 ∨ i = 4 := by omega
  rcases hi with rfl | rfl | rfl | rfl | rfl <;> decide

theorem ok_parts {e : Ev} (h : evOkB e.sym e.at' e.val = true) : 0 ≤ e.sym ∧ e.sym < 5 ∧ 1 ≤ e.at' ∧ e.at' ≤ 1000 ∧ 0 ≤ e.val ∧ e.val ≤ 100 := by simpa [evOkB] using h

theorem oneAt_text {e : Ev} (h : evOkB e.sym e.at' e.val = true) (rest : List UInt8) (hr : ∀ c, rest.head? = some c → c = 32) : oneAt (evText e ++ rest) = (e, (evText e).length) := by
  obtain ⟨h1, h2, h3, h4, h5, h6⟩ := ok_parts h
  have nd32 : ∀ c, rest.head? = some c → ¬ isDig c := by
    intro c hc
    rw [hr c hc]; decide
  by_cases hv : e.val = 0
  · have et : evText e = letB e.sym :: Lib.itoa e.at' := by simp [evText, hv]
    have hn := numAt_itoa (n := e.at') (by omega) (by omega) rest nd32
    rw [et, List.cons_append]
    simp only [oneAt, hn, List.drop_left]
    rw [if_neg (by intro hh; have := hr 61 hh; revert this; decide), symB_letB ⟨h1, h2⟩]
    cases e
    simp at hv ⊢
    exact ⟨hv.symm, by omega⟩
  · have et : evText e = letB e.sym :: (Lib.itoa e.at' ++ 61 :: Lib.itoa e.val) := by simp [evText, hv]
    have hn := numAt_itoa (n := e.at') (by omega) (by omega) (61 :: (Lib.itoa e.val ++ rest)) (by intro c hc; simp at hc; subst hc; decide)
    have hn2 := numAt_itoa (n := e.val) (by omega) (by omega) rest nd32
    have e2 : letB e.sym :: (Lib.itoa e.at' ++ 61 :: Lib.itoa e.val) ++ rest = letB e.sym :: (Lib.itoa e.at' ++ (61 :: (Lib.itoa e.val ++ rest))) := by simp
    rw [et, e2]
    simp only [oneAt, hn, List.drop_left, List.head?_cons, if_true, List.tail_cons, hn2]
    rw [symB_letB ⟨h1, h2⟩]
    simp
    omega

theorem evsText_drop {l : List Ev} {k : Nat} (h : k < l.length) : evsText (l.drop k) = evText l[k] ++ (if k + 1 < l.length then 32 :: evsText (l.drop (k + 1)) else []) := by
  rw [List.drop_eq_getElem_cons h]
  by_cases h1 : k + 1 < l.length
  · rw [if_pos h1, List.drop_eq_getElem_cons h1]
    simp only [evsText, List.flatMap_cons, List.cons_append]
  · rw [if_neg h1, List.drop_eq_nil_of_le (by omega)]
    simp [evsText]

theorem evText_ne (e : Ev) : evText e ≠ [] := by simp [evText]

/-- What the scan holds to: whatever events that are ok this is the text of, those ahead are taken, and the rest is the text of the others. -/
def ScanInv (t : List UInt8) (p : Nat) (acc : List Ev) : Prop :=
  ∀ l : List Ev, evsOkB l = true → evsText l = t → acc.length ≤ l.length ∧ acc = l.take acc.length ∧ t.drop p = evsText (l.drop acc.length)

theorem okFrom_get : ∀ (l : List Ev) (la : Int), okFrom la l = true → ∀ e ∈ l, evOkB e.sym e.at' e.val = true
  | [], _, _ => by simp
  | x :: r, la, h => by
    simp only [okFrom, Bool.and_eq_true] at h
    intro e he
    simp only [List.mem_cons] at he
    rcases he with rfl | he
    · exact h.1.1
    · exact okFrom_get r _ h.2 e he
theorem evsOkB_get {l : List Ev} (h : evsOkB l = true) : ∀ e ∈ l, evOkB e.sym e.at' e.val = true := by
  simp only [evsOkB, Bool.and_eq_true] at h
  exact okFrom_get l 0 h.2

/-- One round: what is read at the place is the next one; a space follows just where one more does. -/
theorem scan_step {t : List UInt8} {p : Nat} {acc : List Ev} (h : ScanInv t p acc) (hp : p < t.length) {l : List Ev} (ho : evsOkB l = true) (ht : evsText l = t) :
    ∃ hk : acc.length < l.length, oneAt (t.drop p) = (l[acc.length], (evText l[acc.length]).length) ∧
      (acc.length + 1 < l.length → (t.drop (p + (evText l[acc.length]).length)).head? = some 32 ∧ t.drop (p + (evText l[acc.length]).length + 1) = evsText (l.drop (acc.length + 1))) ∧
      (¬ acc.length + 1 < l.length → t.drop (p + (evText l[acc.length]).length) = []) := by
  obtain ⟨h1, h2, h3⟩ := h l ho ht
  have hk : acc.length < l.length := by
    rcases Nat.lt_or_ge acc.length l.length with hlt | hge
    · exact hlt
    · rw [List.drop_eq_nil_of_le hge] at h3
      have := congrArg List.length h3
      rw [List.length_drop] at this
      simp [evsText] at this
      omega
  refine ⟨hk, ?_, ?_, ?_⟩
  · rw [h3, evsText_drop hk]
    refine oneAt_text (evsOkB_get ho _ (List.getElem_mem hk)) _ (fun c hc => ?_)
    split at hc
    · simpa using hc.symm
    · simp at hc
  · intro h4
    have e : t.drop (p + (evText l[acc.length]).length) = 32 :: evsText (l.drop (acc.length + 1)) := by
      rw [← List.drop_drop, h3, evsText_drop hk, if_pos h4, List.drop_left]
    refine ⟨by rw [e]; rfl, ?_⟩
    rw [← List.drop_drop, e]; rfl
  · intro h4
    rw [← List.drop_drop, h3, evsText_drop hk, if_neg h4, List.append_nil, List.drop_length]
end Go.Proofs.YtpdboneapodkjaaDoor
