/- What the functions on a list of events answer: the copy. -/
import Derived.Test.YthlddehmebgfoaaAfter
import Derived.Laws.MakeOwn
namespace Go.Proofs.Ythlddehmebgfoaa
open Go.ChangeShapes Go.WideShapes Go.ChangeAt Go.RowKit
set_option linter.unusedVariables false

/-- Block b is a row of events that nobody else holds: the first ones are l. -/
def EvRow (w : World) (b : Nat) (l : List Ev) : Prop :=
  ∃ c t, w.heap[b]? = some (.cells c t (0, 0)) ∧ l.length * 3 ≤ c.size ∧ ∀ i (h : i < l.length), c[i * 3]? = some (.int .i64 l[i].sym) ∧ c[i * 3 + 1]? = some (.int .i64 l[i].at') ∧ c[i * 3 + 2]? = some (.int .i64 l[i].val)

theorem EvRow.evs {w : World} {b : Nat} {l : List Ev} (h : EvRow w b l) (hl : l.length ≤ maxLen) : Evs w (some ⟨b, 0, none⟩) l := by
  obtain ⟨c, t, hb, hs, hc⟩ := h
  refine ⟨hl, fun _ => ⟨b, 0, rfl, (Array.getElem?_eq_some_iff.1 hb).1, fun i hi => ?_⟩⟩
  obtain ⟨h1, h2, h3⟩ := hc i hi
  simp [World.cell?, hb, h1, h2, h3]

theorem EvRow.lt {w : World} {b : Nat} {l : List Ev} (h : EvRow w b l) : b < w.heap.size := by
  obtain ⟨c, t, hb, _⟩ := h
  exact (Array.getElem?_eq_some_iff.1 hb).1

theorem EvRow.of_block {w w' : World} {b : Nat} {l : List Ev} (h : EvRow w b l) (e : w'.heap[b]? = w.heap[b]?) : EvRow w' b l := by
  obtain ⟨c, t, hb, r⟩ := h
  exact ⟨c, t, e.trans hb, r⟩

/-- A row of which the first k events are told, and which has room for n. -/
def EvFill (w : World) (b n : Nat) (l : List Ev) : Prop :=
  ∃ c t, w.heap[b]? = some (.cells c t (0, 0)) ∧ c.size = n * 3 ∧ ∀ i (h : i < l.length), c[i * 3]? = some (.int .i64 l[i].sym) ∧ c[i * 3 + 1]? = some (.int .i64 l[i].at') ∧ c[i * 3 + 2]? = some (.int .i64 l[i].val)

theorem EvFill.of_block {w w' : World} {b n : Nat} {l : List Ev} (h : EvFill w b n l) (e : w'.heap[b]? = w.heap[b]?) : EvFill w' b n l := by
  obtain ⟨c, t, hb, r⟩ := h
  exact ⟨c, t, e.trans hb, r⟩

theorem EvFill.cell {w : World} {b n j : Nat} {l : List Ev} (h : EvFill w b n l) (hj : j < n * 3) : (∃ v, w.cell? ⟨b, j, none⟩ = some v) ∧ w.frozen? ⟨b, j, none⟩ = false := by
  obtain ⟨c, t, hb, hs, _⟩ := h
  constructor
  · exact ⟨c[j]'(by omega), by simp [World.cell?, hb]⟩
  · simp [World.frozen?, hb]

theorem EvFill.next {w : World} {b n : Nat} {l : List Ev} (h : EvFill w b n l) (hl : l.length < n) (e : Ev) :
    EvFill (((w.setCell ⟨b, l.length * 3, none⟩ (.int .i64 e.sym)).setCell ⟨b, l.length * 3 + 1, none⟩ (.int .i64 e.at')).setCell ⟨b, l.length * 3 + 2, none⟩ (.int .i64 e.val)) b n (l ++ [e]) := by
  obtain ⟨c, t, hb, hs, hc⟩ := h
  refine ⟨((c.setIfInBounds (l.length * 3) (.int .i64 e.sym)).setIfInBounds (l.length * 3 + 1) (.int .i64 e.at')).setIfInBounds (l.length * 3 + 2) (.int .i64 e.val), t, ?_, ?_, ?_⟩
  · exact heap_setCell_same _ _ _ _ _ _ (heap_setCell_same _ _ _ _ _ _ (heap_setCell_same _ _ _ _ _ _ hb))
  · simp [hs]
  · intro i hi
    simp only [List.length_append, List.length_cons, List.length_nil] at hi
    by_cases hil : i < l.length
    · obtain ⟨h1, h2, h3⟩ := hc i hil
      rw [List.getElem_append_left hil]
      simp only [Array.getElem?_setIfInBounds]
      refine ⟨?_, ?_, ?_⟩
      · rw [if_neg (by omega), if_neg (by omega), if_neg (by omega)]; exact h1
      · rw [if_neg (by omega), if_neg (by omega), if_neg (by omega)]; exact h2
      · rw [if_neg (by omega), if_neg (by omega), if_neg (by omega)]; exact h3
    · obtain rfl : i = l.length := by omega
      rw [List.getElem_append_right (Nat.le_refl _)]
      simp only [Array.getElem?_setIfInBounds, Array.size_setIfInBounds]
      refine ⟨?_, ?_, ?_⟩
      · rw [if_neg (by omega), if_neg (by omega), if_pos trivial, if_pos (by omega)]; simp
      · rw [if_neg (by omega), if_pos trivial, if_pos (by omega)]; simp
      · rw [if_pos trivial, if_pos (by omega)]; simp

theorem info_ev : (Try.prog.info? 86).map (fun i => (i.zero, i.size, i.bytes)) = some (some (.agg #[.int .i64 0, .int .i64 0, .int .i64 0]), 3, 24) := by kernel_rfl

def zeros (n : Nat) : Array Value := madeCells #[.int .i64 0, .int .i64 0, .int .i64 0] (n * 3)

theorem make_evs (n : Nat) (hn : n ≤ 1048576) (w : World) :
    (Instr.makeSlice 33 (.int .i64 n) (.int .i64 n)).run Try.prog w = .ok (.slice (some ⟨w.heap.size, 0, none⟩) n n) (w.alloc (.cells (zeros n) 86)) := by
  have hi := info_ev
  cases h : Try.prog.info? 86 with
  | none => rw [h] at hi; simp at hi
  | some i =>
    rw [h] at hi
    simp at hi
    obtain ⟨h1, h2, h3⟩ := hi
    have := run_make (P := Try.prog) w 33 86 i (.agg #[.int .i64 0, .int .i64 0, .int .i64 0]) Try.underlying33 h h1 .i64 .i64 n n (by omega) (by omega) (by rw [h3]; omega) (by omega)
    rw [this, h2]
    rfl

set_option maxHeartbeats 400000 in
theorem toEvS_any (a : Option Addr) (cap : Nat) (l : List Ev) (w : World) (h : Evs w a l) (hn : l.length ≤ 1048576) :
    Calls Try.prog 20 #[.slice a l.length cap] w fun e w' => e = .returned (.slice (some ⟨w.heap.size, 0, none⟩) l.length l.length) ∧ EvRow w' w.heap.size l ∧ Below w.heap.size w w' := by
  have hmk := make_evs l.length hn
  go_enter Try.func20, Try.ntmps20
  go_wp2
  go_loopw [4] (fun i wr => ∃ k : Nat, k ≤ l.length ∧ i = .int .i64 k ∧ EvFill wr w.heap.size l.length (l.take k) ∧ Below w.heap.size w wr ∧ w.heap.size < wr.heap.size) (fun i _ => l.length - (intOf i).toNat)
  case atStart =>
    refine ⟨0, Nat.zero_le _, rfl, ?_, (Below.refl _ _).alloc (Nat.le_refl _) _, by simp⟩
    exact ⟨zeros l.length, _, heap_alloc_new w _, by simp [zeros, size_madeCells], fun i hi => by simp at hi⟩
  case round =>
    obtain ⟨k, hk, rfl, hf, hb, hz⟩ := hrel
    by_cases hlt : k < l.length
    · obtain ⟨b, off, rfl, hbl, hc⟩ := (h.below hb).cells (by omega)
      obtain ⟨c0, c1, c2⟩ := hc k hlt
      clear hc hmk
      go_wp2_with fail
      refine (toEv_any _ _ _ _).mono ?_
      rintro e w1 ⟨rfl, hb1⟩
      have hf1 := hf.of_block (hb1.block w.heap.size hz)
      obtain ⟨⟨v0, x0⟩, f0⟩ := hf1.cell (j := k * 3) (by omega)
      obtain ⟨⟨v1, x1⟩, f1⟩ := hf1.cell (j := k * 3 + 1) (by omega)
      obtain ⟨⟨v2, x2⟩, f2⟩ := hf1.cell (j := k * 3 + 2) (by omega)
      go_wp2
      have hlk : (l.take k).length = k := by simp; omega
      have hnx := hf1.next (by omega) l[k]
      rw [hlk, ← List.take_succ_eq_append_getElem hlt] at hnx
      have hbe : Below w.heap.size w w1 := hb.trans (hb1.mono hb.size)
      have hz1 := hb1.size
      exact ⟨⟨k + 1, by omega, by go_num, hnx, ((hbe.setCell (Nat.le_refl _) _).setCell (Nat.le_refl _) _).setCell (Nat.le_refl _) _, by simp; omega⟩, by simp [intOf]; omega⟩
    · go_wp2
      go_ret
      rw [List.take_of_length_le (by omega)] at hf
      obtain ⟨c, t, hh, hs, hc⟩ := hf
      exact ⟨rfl, ⟨c, t, hh, by omega, hc⟩, hb⟩

def evsEqB : List Ev → List Ev → Bool
  | [], [] => true
  | x :: r, y :: s => evEqB x y && evsEqB r s
  | _, _ => false

theorem evsEqB_iff : ∀ (a b : List Ev), evsEqB a b = true ↔ a = b
  | [], [] => by simp [evsEqB]
  | [], _ :: _ => by simp [evsEqB]
  | _ :: _, [] => by simp [evsEqB]
  | x :: r, y :: s => by simp [evsEqB, evEqB_iff, evsEqB_iff r s]
theorem evsEqB_self (a : List Ev) : evsEqB a a = true := (evsEqB_iff a a).2 rfl
theorem evsEqB_len {a b : List Ev} (h : a.length ≠ b.length) : evsEqB a b = false := by
  rw [Bool.eq_false_iff]; intro e; exact h (by rw [(evsEqB_iff a b).1 e])
theorem evsEqB_step {a b : List Ev} {k : Nat} (h : k < a.length) (h' : k < b.length) : evsEqB (a.drop k) (b.drop k) = (evEqB a[k] b[k] && evsEqB (a.drop (k + 1)) (b.drop (k + 1))) := by
  rw [List.drop_eq_getElem_cons h, List.drop_eq_getElem_cons h']; rfl
theorem evsEqB_end {a b : List Ev} {k : Nat} (h : ¬ k < a.length) (h' : a.length = b.length) : evsEqB (a.drop k) (b.drop k) = true := by
  rw [List.drop_eq_nil_of_le (by omega), List.drop_eq_nil_of_le (by omega)]; rfl

set_option maxHeartbeats 400000 in
theorem eqEvS_any (a a' : Option Addr) (cap cap' : Nat) (l l' : List Ev) (w : World) (h : Evs w a l) (h' : Evs w a' l') :
    Calls Try.prog 32 #[.slice a l.length cap, .slice a' l'.length cap'] w fun e w' => e = .returned (.bool (evsEqB l l')) ∧ Below w.heap.size w w' := by
  have hn := h.len
  have hn' := h'.len
  unfold maxLen at hn hn'
  by_cases hne : l.length = l'.length
  · have hf : Hid (evsEqB l l' = evsEqB (l.drop 0) (l'.drop 0)) := rfl
    have hnb : ((l.length : Int) != (l'.length : Int)) = false := by simp [hne]
    have Hne : Hid (l.length = l'.length) := hne
    have hle : l.length ≤ l'.length := by omega
    clear hne
    go_enter Try.func32, Try.ntmps32
    go_wp2
    go_loopw [5] (fun i wr => ∃ k : Nat, k ≤ l.length ∧ i = .int .i64 k ∧ Hid (evsEqB l l' = evsEqB (l.drop k) (l'.drop k)) ∧ Below w.heap.size w wr) (fun i _ => l.length - (intOf i).toNat)
    case atStart => exact ⟨0, Nat.zero_le _, rfl, hf, Below.refl _ _⟩
    case round =>
      obtain ⟨k, hk, rfl, hr, hb⟩ := hrel
      by_cases hlt : k < l.length
      · obtain ⟨b, off, rfl, hbl, hc⟩ := (h.below hb).cells (by omega)
        obtain ⟨c0, c1, c2⟩ := hc k hlt
        obtain ⟨b', off', rfl, hbl', hc'⟩ := (h'.below hb).cells (by omega)
        obtain ⟨d0, d1, d2⟩ := hc' k (by omega)
        clear hc hc'
        have hst : Hid (evsEqB (l.drop k) (l'.drop k) = _) := evsEqB_step hlt (show k < l'.length by omega)
        have hlt' : k < l'.length := by omega
        generalize l[k] = ek at c0 c1 c2 hst
        generalize l'[k] = ek' at d0 d1 d2 hst
        go_wp2
        go_region_with (go_at_call 53; refine (eqEv_any _ _ _).mono ?_; rintro e w1 ⟨rfl, hb1⟩)
        all_goals cases hev : evEqB ek ek'
        all_goals have hbe : Below w.heap.size w w1 := hb.drew.trans (hb1.mono hb.size)
        all_goals go_wp2
        · go_ret
          exact ⟨ret_bool (by rw [hr.out, hst.out, hev]; rfl), hbe⟩
        · exact ⟨⟨k + 1, by omega, by go_num, by show _ = _; rw [hr.out, hst.out, hev]; rfl, hbe⟩, by simp [intOf]; omega⟩
        · go_ret
          exact ⟨ret_bool (by rw [hr.out, hst.out, hev]; rfl), hbe⟩
        · exact ⟨⟨k + 1, by omega, by go_num, by show _ = _; rw [hr.out, hst.out, hev]; rfl, hbe⟩, by simp [intOf]; omega⟩
      · go_wp2
        go_ret
        exact ⟨ret_bool (by rw [hr.out, evsEqB_end hlt Hne.out]), hb⟩
  · rw [evsEqB_len hne]
    have hnb : ((l.length : Int) != (l'.length : Int)) = true := by simp; omega
    go_enter Try.func32, Try.ntmps32
    go_wp2
    go_ret
    exact ⟨rfl, Below.refl _ _⟩

theorem okFrom_zero {l : List Ev} {k : Nat} (h : k < l.length) (la : Int) (hla : la ≤ 0) : okFrom la (l.drop k) = (evOkB l[k].sym l[k].at' l[k].val && okFrom l[k].at' (l.drop (k + 1))) := by
  rw [okFrom_step h]
  cases he : evOkB l[k].sym l[k].at' l[k].val
  · rfl
  · have : 1 ≤ l[k].at' := by simp [evOkB] at he; omega
    rw [decide_eq_true (show la < l[k].at' by omega)]; rfl

/-- The time of the one ahead of place k. -/
def prev (l : List Ev) (k : Nat) : Int := match k with | 0 => 0 | j + 1 => (l[j]?.map (·.at')).getD 0
theorem prev_succ {l : List Ev} {k : Nat} (h : k < l.length) : prev l (k + 1) = l[k].at' := by simp [prev, h]

end Go.Proofs.Ythlddehmebgfoaa
