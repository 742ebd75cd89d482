/- What the program asks of the lists of a part: is there one that .. -/
import Derived.Test.YtlfejpakmgbpnaaDoorNd5
namespace Go.Proofs.YtlfejpakmgbpnaaDoor
open Go.ChangeShapes Go.WideShapes Go.ChangeAt Go.RowKit Go.Deep
set_option linter.unusedVariables false
set_option maxRecDepth 4000

/-- No place ahead of this one. -/
def badK (place k : Int) : Bool := !(decide (0 ≤ k) && decide (k ≤ place - 1))
/-- Due no later than now. -/
def lateO (now : Int) (o : Occ) : Bool := decide (o.tl ≤ now)
/-- A place from 0 on just if there is one. -/
def IdxPost (b : Bool) (w : World) (e : Ending) (w' : World) : Prop := ∃ r : Int, e = .returned (.int .i64 r) ∧ (0 ≤ r ↔ b = true) ∧ Below w.heap.size w w'

theorem any_step {α : Type} {p : α → Bool} {l : List α} {k : Nat} (h : k < l.length) : (l.drop k).any p = (p l[k] || (l.drop (k + 1)).any p) := by
  rw [List.drop_eq_getElem_cons h]; rfl
theorem any_end {α : Type} {p : α → Bool} {l : List α} {k : Nat} (h : ¬ k < l.length) : (l.drop k).any p = false := by
  rw [List.drop_eq_nil_of_le (by omega)]; rfl

set_option maxHeartbeats 400000 in
theorem isBad_any (P : Nat) (place k : Int) (w : World) (hP : w.cell? ⟨P, 0, none⟩ = some (.int .i64 place)) (h0 : 0 ≤ place) (h1 : place ≤ 1000) :
    Calls Tryd.prog 26 #[.int .i64 k, .pointer (some ⟨P, 0, none⟩)] w fun e w' => e = .returned (.bool (badK place k)) ∧ w' = w := by
  go_enter Tryd.func26, Tryd.ntmps26
  go_wp2_with fail
  refine (within_any k 0 (place - 1) _).mono ?_
  rintro e w1 ⟨rfl, rfl⟩
  go_wp2
  go_ret
  exact ⟨ret_bool (by simp [badK]), rfl⟩

set_option maxHeartbeats 400000 in
theorem isLate_any (P : Nat) (now : Int) (o : Occ) (a : Option Addr) (cap : Nat) (w : World) (hP : w.cell? ⟨P, 0, none⟩ = some (.int .i64 now)) :
    Calls Tryd.prog 28 #[.agg #[.int .i64 o.fr, .int .i64 o.tl, .slice a o.ids.length cap], .pointer (some ⟨P, 0, none⟩)] w fun e w' => e = .returned (.bool (lateO now o)) ∧ Below w.heap.size w w' := by
  have hl := block_lt hP
  have b0 := oBelow_new w (.cells #[.int .i64 o.fr, .int .i64 o.tl, .slice a o.ids.length cap] 45)
  have hP1 := (b0.cell (p := ⟨P, 0, none⟩) hl).trans hP
  have hX := box3_new w (.int .i64 o.fr) (.int .i64 o.tl) (.slice a o.ids.length cap) 45
  obtain ⟨w0, hw0⟩ : ∃ w0, w.alloc (.cells #[.int .i64 o.fr, .int .i64 o.tl, .slice a o.ids.length cap] 45) = w0 := ⟨_, rfl⟩
  rw [hw0] at b0 hP1 hX
  obtain ⟨x0, x1, x2⟩ := hX.cells
  go_enter Tryd.func28, Tryd.ntmps28
  go_wp2
  go_ret
  exact ⟨rfl, b0⟩

set_option maxHeartbeats 1000000 in
theorem idxInts_any (P : Nat) (place : Int) (a : Option Addr) (cap : Nat) (l : List Int) (w : World) (hP : w.cell? ⟨P, 0, none⟩ = some (.int .i64 place)) (h0 : 0 ≤ place) (h1 : place ≤ 1000) (h : Ints w a l) :
    Calls Tryd.prog 43 #[.slice a l.length cap, .func (.func 26) #[] #[.pointer (some ⟨P, 0, none⟩)]] w (IdxPost (l.any (badK place)) w) := by
  have hn := h.len
  unfold maxLen at hn
  have hf : Hid (l.any (badK place) = (l.drop 0).any (badK place)) := by show _ = _; simp
  go_enter Tryd.func43, Tryd.ntmps43
  go_wp2
  go_loopw [5, 8] (fun j i wr => ∃ k : Nat, k ≤ l.length ∧ i = .int .i64 k ∧ Hid (l.any (badK place) = (l.drop k).any (badK place)) ∧ wr = w) (fun _ i _ => l.length - (intOf i).toNat)
  case atStart => exact ⟨0, Nat.zero_le _, rfl, hf, rfl⟩
  case round =>
    obtain ⟨k, hk, rfl, hr, hwr⟩ := hrel
    subst hwr
    by_cases hlt : k < l.length
    · obtain ⟨b, off, rfl, hbl, hc⟩ := h.cells (by omega)
      have c0 := hc k hlt
      clear hc
      have hst : Hid ((l.drop k).any (badK place) = _) := any_step hlt
      generalize l[k] = ek at c0 hst
      cases hev : badK place ek
      · go_wp2_with fail
        refine (isBad_any P place ek _ hP h0 h1).mono ?_
        rintro e w1 ⟨rfl, rfl⟩
        rw [hev]
        go_wp2
        exact ⟨⟨k + 1, by omega, by go_num, by show _ = _; rw [hr.out, hst.out, hev]; rfl, by first | rfl | trivial⟩, by simp [intOf]; omega⟩
      · go_wp2_with fail
        refine (isBad_any P place ek _ hP h0 h1).mono ?_
        rintro e w1 ⟨rfl, rfl⟩
        rw [hev]
        go_wp2
        go_ret
        exact ⟨k, rfl, by rw [hr.out, hst.out, hev]; simp, Below.refl _ _⟩
    · go_wp2
      go_ret
      exact ⟨-1, rfl, by rw [hr.out, any_end hlt]; simp, Below.refl _ _⟩

set_option maxHeartbeats 1000000 in
theorem idxOccs_any (P : Nat) (now : Int) (a : Option Addr) (cap : Nat) (l : List Occ) (w : World) (hP : w.cell? ⟨P, 0, none⟩ = some (.int .i64 now)) (h : Occs w a l) :
    Calls Tryd.prog 44 #[.slice a l.length cap, .func (.func 28) #[] #[.pointer (some ⟨P, 0, none⟩)]] w (IdxPost (l.any (lateO now)) w) := by
  have hn := h.len
  have hPl := block_lt hP
  unfold maxLen at hn
  have hf : Hid (l.any (lateO now) = (l.drop 0).any (lateO now)) := by show _ = _; simp
  go_enter Tryd.func44, Tryd.ntmps44
  go_wp2
  go_loopw [5, 8] (fun j i wr => ∃ k : Nat, k ≤ l.length ∧ i = .int .i64 k ∧ Hid (l.any (lateO now) = (l.drop k).any (lateO now)) ∧ Below w.heap.size w wr) (fun _ i _ => l.length - (intOf i).toNat)
  case atStart => exact ⟨0, Nat.zero_le _, rfl, hf, Below.refl _ _⟩
  case round =>
    obtain ⟨k, hk, rfl, hr, hb⟩ := hrel
    have hPr := (hb.cell (p := ⟨P, 0, none⟩) hPl).trans hP
    by_cases hlt : k < l.length
    · obtain ⟨b, off, p, cp, rfl, hbl, c0, c1, c2, hids⟩ := (h.below hb).at hlt
      have hst : Hid ((l.drop k).any (lateO now) = _) := any_step hlt
      generalize l[k] = o at c0 c1 c2 hids hst
      cases hev : lateO now o
      · go_wp2_with fail
        refine (isLate_any P now o p cp _ hPr).mono ?_
        rintro e w1 ⟨rfl, hb1⟩
        rw [hev]
        go_wp2
        exact ⟨⟨k + 1, by omega, by go_num, by show _ = _; rw [hr.out, hst.out, hev]; rfl, hb.trans (hb1.mono hb.size)⟩, by simp [intOf]; omega⟩
      · go_wp2_with fail
        refine (isLate_any P now o p cp _ hPr).mono ?_
        rintro e w1 ⟨rfl, hb1⟩
        rw [hev]
        go_wp2
        go_ret
        exact ⟨k, rfl, by rw [hr.out, hst.out, hev]; simp, hb.trans (hb1.mono hb.size)⟩
    · go_wp2
      go_ret
      exact ⟨-1, rfl, by rw [hr.out, any_end hlt]; simp, hb⟩

set_option maxHeartbeats 400000 in
theorem hasInts_any (P : Nat) (place : Int) (a : Option Addr) (cap : Nat) (l : List Int) (w : World) (hP : w.cell? ⟨P, 0, none⟩ = some (.int .i64 place)) (h0 : 0 ≤ place) (h1 : place ≤ 1000) (h : Ints w a l) :
    Calls Tryd.prog 25 #[.slice a l.length cap, .func (.func 26) #[] #[.pointer (some ⟨P, 0, none⟩)]] w fun e w' => e = .returned (.bool (l.any (badK place))) ∧ Below w.heap.size w w' := by
  obtain ⟨G, hG⟩ : ∃ G, l.any (badK place) = G := ⟨_, rfl⟩
  have hc := idxInts_any P place a cap l w hP h0 h1 h
  rw [hG] at hc ⊢
  clear hG
  cases G
  all_goals
    go_enter Tryd.func25, Tryd.ntmps25
    go_wp2_with fail
    refine hc.mono ?_
    rintro e w1 ⟨r, rfl, hr, hb1⟩
    simp at hr
    go_wp2
    go_ret
    exact ⟨ret_bool (by first | (simp; done) | (simp; omega)), hb1⟩

set_option maxHeartbeats 400000 in
theorem hasOccs_any (P : Nat) (now : Int) (a : Option Addr) (cap : Nat) (l : List Occ) (w : World) (hP : w.cell? ⟨P, 0, none⟩ = some (.int .i64 now)) (h : Occs w a l) :
    Calls Tryd.prog 27 #[.slice a l.length cap, .func (.func 28) #[] #[.pointer (some ⟨P, 0, none⟩)]] w fun e w' => e = .returned (.bool (l.any (lateO now))) ∧ Below w.heap.size w w' := by
  obtain ⟨G, hG⟩ : ∃ G, l.any (lateO now) = G := ⟨_, rfl⟩
  have hc := idxOccs_any P now a cap l w hP h
  rw [hG] at hc ⊢
  clear hG
  cases G
  all_goals
    go_enter Tryd.func27, Tryd.ntmps27
    go_wp2_with fail
    refine hc.mono ?_
    rintro e w1 ⟨r, rfl, hr, hb1⟩
    simp at hr
    go_wp2
    go_ret
    exact ⟨ret_bool (by first | (simp; done) | (simp; omega)), hb1⟩
end Go.Proofs.YtlfejpakmgbpnaaDoor
