/- Where something was found, as plain data; where it lies in memory; the laws' helpers at one. -/
import Derived.Test.YthlddehmebgfoaaInts
namespace Go.Proofs.Ythlddehmebgfoaa
open Go.ChangeShapes Go.WideShapes Go.ChangeAt Go.RowKit
set_option linter.unusedVariables false
set_option maxRecDepth 4000

/-- A place: from when, till when, of which events. -/
structure Occ where
  fr : Int
  tl : Int
  ids : List Int

/-- What is left of a number when so many were counted: below 0 is -1. -/
def szDown (left : Int) (n : Nat) : Int := if left - n < 0 then -1 else left - n

set_option maxHeartbeats 400000 in
theorem szIntS_any (a : Option Addr) (n cap : Nat) (left : Int) (w : World) (hn : n ≤ maxLen) (h0 : 0 ≤ left) (h1 : left ≤ 1048576) :
    Calls Try.prog 12 #[.slice a n cap, .int .i64 left] w fun e w' => e = .returned (.int .i64 (szDown left n)) ∧ w' = w := by
  unfold maxLen at hn
  unfold szDown
  by_cases h : left - n < 0
  · rw [if_pos h]
    go_enter Try.func12, Try.ntmps12
    go_wp2
    go_ret
    exact ⟨rfl, rfl⟩
  · rw [if_neg h]
    go_enter Try.func12, Try.ntmps12
    go_wp2
    go_ret
    exact ⟨rfl, rfl⟩

set_option maxHeartbeats 400000 in
theorem szOcc_any (f t : Int) (a : Option Addr) (n cap : Nat) (left : Int) (w : World) (hn : n ≤ maxLen) (h0 : 0 ≤ left) (h1 : left ≤ 1048576) :
    Calls Try.prog 57 #[.agg #[.int .i64 f, .int .i64 t, .slice a n cap], .int .i64 left] w fun e w' => e = .returned (.int .i64 (szDown left n)) ∧ Below w.heap.size w w' := by
  have hb0 : Below w.heap.size w (w.alloc (.cells #[.int .i64 f, .int .i64 t, .slice a n cap] 76)) := (Below.refl _ _).alloc (Nat.le_refl _) _
  by_cases h : left - n < 0
  · have hz : szDown left n = -1 := if_pos h
    rw [hz]
    go_enter Try.func57, Try.ntmps57
    go_wp2_with fail
    refine (szIntS_any _ _ _ _ _ hn h0 h1).mono ?_
    rintro e w1 ⟨rfl, rfl⟩
    rw [hz]
    go_wp2
    go_ret
    exact ⟨rfl, hb0⟩
  · have hz : szDown left n = left - n := if_neg h
    have hge : ¬ (left - (n : Int) < 0) := h
    rw [hz]
    go_enter Try.func57, Try.ntmps57
    go_wp2_with fail
    refine (szIntS_any _ _ _ _ _ hn h0 h1).mono ?_
    rintro e w1 ⟨rfl, rfl⟩
    rw [hz]
    go_wp2
    go_ret
    exact ⟨rfl, hb0⟩

/-- A row of numbers of which the first ones are told, and which has room for n. -/
def IntFill (w : World) (b n : Nat) (l : List Int) : Prop :=
  ∃ c t, w.heap[b]? = some (.cells c t (0, 0)) ∧ c.size = n ∧ ∀ i (h : i < l.length), c[i]? = some (.int .i64 l[i])
theorem IntFill.cell {w : World} {b n j : Nat} {l : List Int} (h : IntFill w b n l) (hj : j < n) : (∃ v, w.cell? ⟨b, j, none⟩ = some v) ∧ w.frozen? ⟨b, j, none⟩ = false := by
  obtain ⟨c, t, hb, hs, _⟩ := h
  exact ⟨⟨c[j]'(by omega), by simp [World.cell?, hb]⟩, by simp [World.frozen?, hb]⟩
theorem IntFill.next {w : World} {b n : Nat} {l : List Int} (h : IntFill w b n l) (hl : l.length < n) (e : Int) : IntFill (w.setCell ⟨b, l.length, none⟩ (.int .i64 e)) b n (l ++ [e]) := by
  obtain ⟨c, t, hb, hs, hc⟩ := h
  refine ⟨c.setIfInBounds l.length (.int .i64 e), t, heap_setCell_same _ _ _ _ _ _ hb, by simp [hs], ?_⟩
  intro i hi
  simp only [List.length_append, List.length_cons, List.length_nil] at hi
  by_cases hil : i < l.length
  · rw [List.getElem_append_left hil]
    simp only [Array.getElem?_setIfInBounds]
    rw [if_neg (by omega)]; exact hc i hil
  · obtain rfl : i = l.length := by omega
    rw [List.getElem_append_right (Nat.le_refl _)]
    simp only [Array.getElem?_setIfInBounds]
    rw [if_pos trivial, if_pos (by omega)]; simp

def zerosInt (n : Nat) : Array Value := madeCells #[.int .i64 0] (n * 1)
theorem make_ints (n : Nat) (hn : n ≤ 1048576) (w : World) :
    (Instr.makeSlice 25 (.int .i64 n) (.int .i64 n)).run Try.prog w = .ok (.slice (some ⟨w.heap.size, 0, none⟩) n n) (w.alloc (.cells (zerosInt n) 3)) := by
  obtain ⟨i, h, h1, h2, h3⟩ := info_int_parts
  have := run_make (P := Try.prog) w 25 3 i (.int .i64 0) Try.underlying25 h h1 .i64 .i64 n n (by omega) (by omega) (by rw [h3]; omega) (by omega)
  rw [this, h2]
  rfl

set_option maxHeartbeats 400000 in
theorem toIntS_any (a : Option Addr) (cap : Nat) (l : List Int) (w : World) (h : Ints w a l) (hn : l.length ≤ 1048576) :
    Calls Try.prog 21 #[.slice a l.length cap] w fun e w' => e = .returned (.slice (some ⟨w.heap.size, 0, none⟩) l.length l.length) ∧ IntRow w' w.heap.size l ∧ Below w.heap.size w w' ∧ w.heap.size < w'.heap.size := by
  have hmk := make_ints l.length hn
  go_enter Try.func21, Try.ntmps21
  go_wp2
  go_loopw [4] (fun i wr => ∃ k : Nat, k ≤ l.length ∧ i = .int .i64 k ∧ IntFill wr w.heap.size l.length (l.take k) ∧ Below w.heap.size w wr ∧ w.heap.size < wr.heap.size) (fun i _ => l.length - (intOf i).toNat)
  case atStart =>
    refine ⟨0, Nat.zero_le _, rfl, ?_, (Below.refl _ _).alloc (Nat.le_refl _) _, by simp⟩
    exact ⟨zerosInt l.length, _, heap_alloc_new w _, by simp [zerosInt, size_madeCells], fun i hi => by simp at hi⟩
  case round =>
    obtain ⟨k, hk, rfl, hf, hb, hz⟩ := hrel
    by_cases hlt : k < l.length
    · obtain ⟨b, off, rfl, hbl, hc⟩ := (h.below hb).cells (by omega)
      have c0 := hc k hlt
      clear hc hmk
      obtain ⟨⟨v0, x0⟩, f0⟩ := hf.cell (j := k) hlt
      go_wp2
      have hlk : (l.take k).length = k := by simp; omega
      have hnx := hf.next (by omega) l[k]
      rw [hlk, ← List.take_succ_eq_append_getElem hlt] at hnx
      exact ⟨⟨k + 1, by omega, by go_num, hnx, hb.setCell (Nat.le_refl _) _, by simp; omega⟩, by simp [intOf]; omega⟩
    · go_wp2
      go_ret
      rw [List.take_of_length_le (by omega)] at hf
      obtain ⟨c, t, hh, hs, hc⟩ := hf
      exact ⟨rfl, ⟨c, t, hh, by omega, hc⟩, hb, hz⟩

theorem oCell {w : World} {b : Nat} {c : Array Value} {t : TypeId} {f : Nat × Nat} (h : w.heap[b]? = some (.cells c t f)) (o : Nat) : w.cell? ⟨b, o, none⟩ = c[o]? := by simp [World.cell?, h]
theorem oAlloc3_third (w : World) (A B C : Obj) : (((w.alloc A).alloc B).alloc C).heap[w.heap.size + 1 + 1]? = some C := by
  have := heap_alloc_new ((w.alloc A).alloc B) C
  simpa only [World.size_alloc] using this
theorem oAlloc3_second (w : World) (A B C : Obj) : (((w.alloc A).alloc B).alloc C).heap[w.heap.size + 1]? = some B := by
  have := heap_alloc_new (w.alloc A) B
  rw [World.size_alloc] at this
  exact (Below.heap_alloc _ _ _ (by simp)).trans this

theorem IntOwn.of_row {w : World} {B b : Nat} {l : List Int} (h : IntRow w b l) (hB : B ≤ b) (hl : l.length ≤ maxLen) : IntOwn w B (some ⟨b, 0, none⟩) l :=
  ⟨hl, fun x hx => by cases hx; exact hB, fun _ => ⟨b, rfl, hB, by obtain ⟨c, t, hb, _⟩ := h; exact (Array.getElem?_eq_some_iff.1 hb).1, h⟩⟩

/-- What the copy of one hands back: its numbers in a row of their own, the block b. -/
def CopyO (w : World) (f t : Int) (l : List Int) (e : Ending) (w' : World) : Prop :=
  ∃ b, e = .returned (.agg #[.int .i64 f, .int .i64 t, .slice (some ⟨b, 0, none⟩) l.length l.length]) ∧ IntRow w' b l ∧ w.heap.size ≤ b ∧ b < w'.heap.size ∧ Below w.heap.size w w'

set_option maxHeartbeats 400000 in
theorem toOcc_any (f t : Int) (a : Option Addr) (cap : Nat) (l : List Int) (w : World) (h : Ints w a l) (hn : l.length ≤ 1048576) :
    Calls Try.prog 65 #[.agg #[.int .i64 f, .int .i64 t, .slice a l.length cap]] w (CopyO w f t l) := by
  go_enter Try.func65, Try.ntmps65
  go_wp2_with fail
  have hb0 : Below w.heap.size w (((w.alloc (.cells #[.int .i64 f, .int .i64 t, .slice a l.length cap] 76)).alloc (.cells #[.int .i64 0, .int .i64 0, .slice none 0 0] 60)).alloc (.cells #[.int .i64 f, .int .i64 t, .slice none 0 0] 60)) :=
    (((Below.refl _ _).alloc (Nat.le_refl _) _).alloc (by simp) _).alloc (by simp; omega) _
  refine (toIntS_any a cap l _ (h.below hb0) hn).mono ?_
  rintro e w1 ⟨rfl, hO, hb1, hz1⟩
  have hbe := hb0.trans (hb1.mono hb0.size)
  have hs1 := hb1.size
  simp only [World.size_alloc] at hO hs1 hz1
  have hB2 : w1.heap[w.heap.size + 1 + 1]? = some (.cells #[.int .i64 f, .int .i64 t, .slice none 0 0] 60 (0, 0)) := by
    rw [hb1.block _ (by simp)]; exact oAlloc3_third _ _ _ _
  have hB1 : w1.heap[w.heap.size + 1]? = some (.cells #[.int .i64 0, .int .i64 0, .slice none 0 0] 60 (0, 0)) := by
    rw [hb1.block _ (by simp)]; exact oAlloc3_second _ _ _ _
  have c20 := oCell hB2 0
  have c21 := oCell hB2 1
  have c22 := oCell hB2 2
  have c10 := oCell hB1 0
  have c11 := oCell hB1 1
  have c12 := oCell hB1 2
  have f2 : ∀ o, w1.frozen? ⟨w.heap.size + 1 + 1, o, none⟩ = false := fun o => by simp [World.frozen?, hB2]
  have f1 : ∀ o, w1.frozen? ⟨w.heap.size + 1, o, none⟩ = false := fun o => by simp [World.frozen?, hB1]
  go_wp2
  refine bodyPost_ret (v := .agg #[.int .i64 f, .int .i64 t, .slice (some ⟨w.heap.size + 1 + 1 + 1, 0, none⟩) l.length l.length]) (by simp [results, Try.results65, go_sem, c10, c11, c12]) rfl ⟨_, rfl, ?_, by omega, ?_, ?_⟩
  · refine hO.of_block ?_
    rw [Below.heap_setCell _ _ _ _ (by simp <;> omega), Below.heap_setCell _ _ _ _ (by simp <;> omega), Below.heap_setCell _ _ _ _ (by simp <;> omega), Below.heap_setCell _ _ _ _ (by simp <;> omega)]
  · simpa using hz1
  · exact (((hbe.setCell (by simp; omega) _).setCell (by simp) _).setCell (by simp) _).setCell (by simp) _

def occEqB (f t : Int) (l : List Int) (f' t' : Int) (l' : List Int) : Bool := decide (f = f' ∧ t = t') && intsEqB l l'
theorem occEqB_self (f t : Int) (l : List Int) : occEqB f t l f t l = true := by simp [occEqB, intsEqB_self]
theorem occEqB_iff (f t : Int) (l : List Int) (f' t' : Int) (l' : List Int) : occEqB f t l f' t' l' = true ↔ f = f' ∧ t = t' ∧ l = l' := by simp [occEqB, intsEqB_iff, and_assoc]

set_option maxHeartbeats 400000 in
theorem eqOcc_any (f t : Int) (a : Option Addr) (cap : Nat) (l : List Int) (f' t' : Int) (a' : Option Addr) (cap' : Nat) (l' : List Int) (w : World) (h : Ints w a l) (h' : Ints w a' l') :
    Calls Try.prog 75 #[.agg #[.int .i64 f, .int .i64 t, .slice a l.length cap], .agg #[.int .i64 f', .int .i64 t', .slice a' l'.length cap']] w
      fun e w' => e = .returned (.bool (occEqB f t l f' t' l')) ∧ Below w.heap.size w w' := by
  have hb0 : Below w.heap.size w ((w.alloc (.cells #[.int .i64 f, .int .i64 t, .slice a l.length cap] 60)).alloc (.cells #[.int .i64 f', .int .i64 t', .slice a' l'.length cap'] 60)) :=
    ((Below.refl _ _).alloc (Nat.le_refl _) _).alloc (by simp) _
  by_cases h1 : f = f'
  · by_cases h2 : t = t'
    · subst h1 h2
      have hx : Hid (occEqB f t l f t l' = intsEqB l l') := by show _ = _; simp [occEqB]
      cases hq : intsEqB l l'
      all_goals
        go_enter Try.func75, Try.ntmps75
        go_wp2_with fail
        refine (eqIntS_any _ _ _ _ l l' _ (h.below hb0) (h'.below hb0)).mono ?_
        rintro e w1 ⟨rfl, hb1⟩
        go_wp2
        go_ret
        exact ⟨ret_bool (by rw [hx.out, hq]), hb0.trans (hb1.mono hb0.size)⟩
    · have hx : occEqB f t l f' t' l' = false := by simp [occEqB, h2]
      rw [hx]
      subst h1
      have hne : (t != t') = true := by simpa using h2
      clear hx h2
      go_enter Try.func75, Try.ntmps75
      go_wp2_with fail
      go_ret
      exact ⟨rfl, hb0⟩
  · have hx : occEqB f t l f' t' l' = false := by simp [occEqB, h1]
    rw [hx]
    have hne : (f != f') = true := by simpa using h1
    clear hx h1
    go_enter Try.func75, Try.ntmps75
    go_wp2_with fail
    go_ret
    exact ⟨rfl, hb0⟩
end Go.Proofs.Ythlddehmebgfoaa
