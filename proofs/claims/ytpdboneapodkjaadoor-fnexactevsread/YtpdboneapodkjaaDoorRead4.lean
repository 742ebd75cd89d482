/- The program's EvsRead: the events that are ok of which this is the text. -/
import Derived.Test.YtpdboneapodkjaaDoorRead3
import Derived.Test.YtpdboneapodkjaaDoorText2
namespace Go.Proofs.YtpdboneapodkjaaDoor
open Go.ChangeShapes Go.WideShapes Go.ChangeAt Go.RowKit
set_option linter.unusedVariables false

/-- What reading a text should find. -/
def Reads (t : List UInt8) : Option (List Ev) → Prop
  | some l => evsOkB l = true ∧ evsText l = t ∧ t.length ≤ 300
  | none => 300 < t.length ∨ ∀ l, evsOkB l = true → evsText l ≠ t

/-- The text of events that are ok is that of no others. -/
theorem text_inj {l l' : List Ev} (h : evsOkB l = true) (h' : evsOkB l' = true) (e : evsText l = evsText l') : l = l' := by
  have key : ∀ (n : Nat), n ≤ l.length → n ≤ l'.length → l.take n = l'.take n → evsText (l.drop n) = evsText (l'.drop n) → l = l' := by
    intro n
    induction hm : l.length - n generalizing n with
    | zero =>
      intro h1 h2 h3 h4
      have : n = l.length := by omega
      subst this
      rw [List.drop_length] at h4
      have h5 : l'.length = l.length := by
        rcases Nat.lt_or_ge l.length l'.length with hlt | hge
        · rw [evsText_drop hlt] at h4
          have := congrArg List.length h4
          simp only [evsText, List.length_nil, List.length_append] at this
          have := List.length_pos_iff.2 (evText_ne l'[l.length])
          omega
        · omega
      rw [List.take_length, ← h5, List.take_length] at h3
      exact h3
    | succ k ih =>
      intro h1 h2 h3 h4
      have hn : n < l.length := by omega
      have hn' : n < l'.length := by
        rcases Nat.lt_or_ge n l'.length with hlt | hge
        · exact hlt
        · rw [List.drop_eq_nil_of_le hge, evsText_drop hn] at h4
          have := congrArg List.length h4
          simp only [evsText, List.length_nil, List.length_append] at this
          have := List.length_pos_iff.2 (evText_ne l[n])
          omega
      have o := evsOkB_get h _ (List.getElem_mem hn)
      have o' := evsOkB_get h' _ (List.getElem_mem hn')
      rw [evsText_drop hn, evsText_drop hn'] at h4
      have r32 : ∀ (b : Prop) [Decidable b] (t : List UInt8) (c : UInt8), (if b then 32 :: t else []).head? = some c → c = 32 := by
        intro b _ t c hc
        split at hc
        · simpa using hc.symm
        · simp at hc
      have e1 := oneAt_text o _ (r32 (n + 1 < l.length) (evsText (l.drop (n + 1))))
      have e2 := oneAt_text o' _ (r32 (n + 1 < l'.length) (evsText (l'.drop (n + 1))))
      rw [h4, e2] at e1
      injection e1 with e3 e4
      have h5 : (if n + 1 < l.length then 32 :: evsText (l.drop (n + 1)) else []) = (if n + 1 < l'.length then 32 :: evsText (l'.drop (n + 1)) else []) := by
        rw [e3] at h4
        exact List.append_cancel_left h4
      have h6 : evsText (l.drop (n + 1)) = evsText (l'.drop (n + 1)) := by
        split at h5
        · split at h5
          · injection h5
          · cases h5
        · split at h5
          · cases h5
          · rw [List.drop_eq_nil_of_le (by omega), List.drop_eq_nil_of_le (by omega)]
      exact ih (n + 1) (by omega) (by omega) (by omega) (by rw [List.take_succ_eq_append_getElem hn, List.take_succ_eq_append_getElem hn', h3, e3]) h6
  exact key 0 (by omega) (by omega) (by simp) (by simpa using e)

theorem reads_one {t : List UInt8} {r r' : Option (List Ev)} (h : Reads t r) (h' : Reads t r') : r = r' := by
  cases r with
  | none =>
    cases r' with
    | none => rfl
    | some l' =>
      rcases h with h | h
      · exact absurd h'.2.2 (by omega)
      · exact absurd h'.2.1 (h l' h'.1)
  | some l =>
    cases r' with
    | none =>
      rcases h' with h' | h'
      · exact absurd h.2.2 (by omega)
      · exact absurd h.2.1 (h' l h.1)
    | some l' => rw [text_inj h.1 h'.1 (h.2.1.trans h'.2.1.symm)]

/-- The two answers as values: a row of its own, or nil. -/
def ReadEnd (B : Nat) (w' : World) (e : Ending) (r : Option (List Ev)) : Prop :=
  ∃ a cap, e = .returned (.tuple #[.slice a (r.getD []).length cap, .bool r.isSome]) ∧ EvOwn w' B a (r.getD [])

theorem toList_inj {a b : ByteArray} (h : a.toList = b.toList) : a = b := by
  have h1 : (a == b) = true := by rw [beq_toListBytes, h]; simp
  have h2 : (a.data == b.data) = true := h1
  exact ByteArray.ext (eq_of_beq h2)

set_option maxHeartbeats 1000000 in
theorem implEvsRead_any (s : ByteArray) (w : World) (hs : s.size ≤ 1048576) (ht : Tab w) :
    Calls Tryd.prog 11 #[.string s] w fun e w' => ∃ r, Reads (bs s) r ∧ ReadEnd w.heap.size w' e r ∧ Below w.heap.size w w' := by
  have hbl := bs_len s
  by_cases h300 : (300 : Int) < (s.size : Int)
  · have hrd : Hid (Reads (bs s) none) := Or.inl (by rw [hbl]; omega)
    clear hbl
    go_enter Tryd.func11, Tryd.ntmps11
    go_wp2
    go_ret2
    exact ⟨none, hrd.out, ⟨none, 0, rfl, ⟨by simp, by simp, by simp⟩⟩, Below.refl _ _⟩
  · have h3 : Hid ((bs s).length ≤ 300) := by show _ ≤ _; rw [hbl]; omega
    clear hbl
    go_enter Tryd.func11, Tryd.ntmps11
    go_wp2_with fail
    refine (evsScan_any s _ hs).mono ?_
    rintro e w1 ⟨v, L, rfl, hown, hL, hwf, hsc, hb1⟩
    obtain ⟨a, cap, rfl, hO⟩ := evOwn_of hown
    clear hown
    have Hsc : Hid _ := hsc
    clear hsc
    go_wp2_with fail
    refine (implEvsOk_any _ _ L _ hO.evs).mono ?_
    rintro e w2 ⟨rfl, hb2⟩
    have b02 := hb1.trans (hb2.mono hb1.size)
    have hO2 := hO.below hb2
    cases hok : evsOkB L
    · have hrd : Hid (Reads (bs s) none) := Or.inr (fun l hl hh => by have := Hsc.out l hl hh; rw [this, hl] at hok; cases hok)
      go_wp2
      go_ret2
      exact ⟨none, hrd.out, ⟨none, 0, rfl, ⟨by simp, by simp, by simp⟩⟩, b02⟩
    · go_wp2_with fail
      refine (implEvsText_any _ _ L _ hO2.evs (by omega) hwf (ht.below b02 ht.lt)).mono ?_
      rintro e w3 ⟨rfl, hb3⟩
      have b03 := b02.trans (hb3.mono b02.size)
      have hO3 := hO2.below hb3
      by_cases heq : evsText L = bs s
      · have hse : (⟨(evsText L).toArray⟩ : ByteArray) = s := by
          apply ByteArray.ext
          rw [heq]; simp [bs]
        have hrd : Hid (Reads (bs s) (some L)) := ⟨hok, heq, h3.out⟩
        clear heq
        rw [hse]
        clear hse
        go_wp2
        go_ret2
        exact ⟨some L, hrd.out, ⟨a, cap, rfl, hO3⟩, b03⟩
      · have hne : (⟨(evsText L).toArray⟩ : ByteArray) ≠ s := by
          intro e
          apply heq
          rw [← e]; simp [bs]
        have hrd : Hid (Reads (bs s) none) := Or.inr (fun l hl hh => by have := Hsc.out l hl hh; subst this; exact heq hh)
        clear heq
        generalize (⟨(evsText L).toArray⟩ : ByteArray) = u at hne
        have hnb : (u.toList == s.toList) = false := by
          rw [beq_eq_false_iff_ne]
          intro e
          exact hne (toList_inj e)
        clear hne
        go_wp2
        go_ret2
        exact ⟨none, hrd.out, ⟨none, 0, rfl, ⟨by simp, by simp, by simp⟩⟩, b03⟩
end Go.Proofs.YtpdboneapodkjaaDoor
