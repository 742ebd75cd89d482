/- Where something was found: the one order of places, as the program reckons it. -/
import Derived.Test.YthlddehmebgfoaaOccBox
import Derived.Test.YthlddehmebgfoaaCmp
namespace Go.Proofs.Ythlddehmebgfoaa
open Go.ChangeShapes Go.WideShapes Go.ChangeAt Go.RowKit
set_option linter.unusedVariables false
set_option maxRecDepth 4000

/-- Two lists of numbers: below 0, if the first comes first. -/
def idsCmp : List Int → List Int → Int
  | [], [] => 0
  | [], _ :: _ => -1
  | _ :: _, [] => 1
  | x :: r, y :: s => if cmpI x y = 0 then idsCmp r s else cmpI x y
theorem idsCmp_end {l l' : List Int} {k : Nat} (h : ¬ k < l.length) (hk0 : k ≤ l.length) (h' : k ≤ l'.length) : idsCmp (l.drop k) (l'.drop k) = if l.length < l'.length then -1 else 0 := by
  rw [List.drop_eq_nil_of_le (by omega)]
  by_cases hk : k < l'.length
  · rw [List.drop_eq_getElem_cons hk, if_pos (by omega)]; rfl
  · have e : l'.drop k = [] := List.drop_eq_nil_of_le (by omega)
    have e2 : ¬ l.length < l'.length := by omega
    rw [e, if_neg e2]; rfl
theorem idsCmp_over {l l' : List Int} {k : Nat} (h : k < l.length) (h' : ¬ k < l'.length) : idsCmp (l.drop k) (l'.drop k) = 1 := by
  have e : l'.drop k = [] := List.drop_eq_nil_of_le (by omega)
  rw [e, List.drop_eq_getElem_cons h]; rfl
theorem idsCmp_step {l l' : List Int} {k : Nat} (h : k < l.length) (h' : k < l'.length) : idsCmp (l.drop k) (l'.drop k) = if cmpI l[k] l'[k] = 0 then idsCmp (l.drop (k + 1)) (l'.drop (k + 1)) else cmpI l[k] l'[k] := by
  rw [List.drop_eq_getElem_cons h, List.drop_eq_getElem_cons h']; rfl

set_option maxHeartbeats 400000 in
theorem slicesCompare_any (a a' : Option Addr) (cap cap' : Nat) (l l' : List Int) (w : World) (h : Ints w a l) (h' : Ints w a' l') :
    Calls Try.prog 72 #[.slice a l.length cap, .slice a' l'.length cap'] w fun e w' => e = .returned (.int .i64 (idsCmp l l')) ∧ Below w.heap.size w w' := by
  have hn := h.len
  have hn' := h'.len
  unfold maxLen at hn hn'
  have hf : Hid (idsCmp l l' = idsCmp (l.drop 0) (l'.drop 0)) := rfl
  go_enter Try.func72, Try.ntmps72
  go_wp2
  go_loopw [4, 5, 6, 7, 8, 11] (fun p q r s u i wr => ∃ k : Nat, k ≤ l.length ∧ k ≤ l'.length ∧ i = .int .i64 k ∧ Hid (idsCmp l l' = idsCmp (l.drop k) (l'.drop k)) ∧ Below w.heap.size w wr) (fun _ _ _ _ _ i _ => l.length - (intOf i).toNat)
  case atStart => exact ⟨0, Nat.zero_le _, Nat.zero_le _, rfl, hf, Below.refl _ _⟩
  case round =>
    obtain ⟨k, hk, hk', rfl, hr, hb⟩ := hrel
    by_cases hlt : k < l.length
    · obtain ⟨b, off, rfl, hbl, hc⟩ := (h.below hb).cells (by omega)
      have c0 := hc k hlt
      clear hc
      by_cases hlt' : k < l'.length
      · obtain ⟨b', off', rfl, hbl', hc'⟩ := (h'.below hb).cells (by omega)
        have d0 := hc' k hlt'
        clear hc'
        have hst : Hid (idsCmp (l.drop k) (l'.drop k) = _) := idsCmp_step hlt hlt'
        generalize l[k] = ek at c0 hst
        generalize l'[k] = ek' at d0 hst
        by_cases hz : cmpI ek ek' = 0
        · rw [if_pos hz] at hst
          go_wp2_with (go_at_call 71; refine (cmpInt_any _ _ _).mono ?_; rintro e w' ⟨rfl, rfl⟩; rw [hz])
          exact ⟨⟨k + 1, by omega, by omega, by go_num, by show _ = _; rw [hr.out, hst.out], hb⟩, by simp [intOf]; omega⟩
        · rw [if_neg hz] at hst
          have hz' : (cmpI ek ek' != 0) = true := by simpa using hz
          go_wp2_with (go_at_call 71; refine (cmpInt_any _ _ _).mono ?_; rintro e w' ⟨rfl, rfl⟩)
          go_ret
          exact ⟨retI (by rw [hr.out, hst.out]), hb⟩
      · go_wp2
        go_ret
        exact ⟨retI (by rw [hr.out, idsCmp_over hlt hlt']), hb⟩
    · have he : Hid (idsCmp (l.drop k) (l'.drop k) = if l.length < l'.length then -1 else 0) := idsCmp_end hlt hk hk'
      by_cases hll : l.length < l'.length
      · rw [if_pos hll] at he
        go_wp2
        go_ret
        exact ⟨retI (by rw [hr.out, he.out]), hb⟩
      · rw [if_neg hll] at he
        go_wp2
        go_ret
        exact ⟨retI (by rw [hr.out, he.out]), hb⟩

/-- The first number that is not 0, or 0. -/
def orF : List Int → Int
  | [] => 0
  | x :: r => if x = 0 then orF r else x

set_option maxHeartbeats 400000 in
theorem cmpOr_any (a : Option Addr) (cap : Nat) (l : List Int) (w : World) (h : Ints w a l) :
    Calls Try.prog 70 #[.slice a l.length cap] w fun e w' => e = .returned (.int .i64 (orF l)) ∧ Below w.heap.size w w' := by
  have hn := h.len
  unfold maxLen at hn
  have hf : Hid (orF l = orF (l.drop 0)) := rfl
  go_enter Try.func70, Try.ntmps70
  go_wp2
  go_loopw [5, 8] (fun p i wr => ∃ k : Nat, k ≤ l.length ∧ i = .int .i64 k ∧ Hid (orF l = orF (l.drop k)) ∧ Below w.heap.size w wr) (fun _ i _ => l.length - (intOf i).toNat)
  case atStart => exact ⟨0, Nat.zero_le _, rfl, hf, Below.refl _ _⟩
  case round =>
    obtain ⟨k, hk, rfl, hr, hb⟩ := hrel
    by_cases hlt : k < l.length
    · obtain ⟨b, off, rfl, hbl, hc⟩ := (h.below hb).cells (by omega)
      have c0 := hc k hlt
      clear hc
      have hst : Hid (orF (l.drop k) = if l[k] = 0 then orF (l.drop (k + 1)) else l[k]) := by show _ = _; rw [List.drop_eq_getElem_cons hlt]; rfl
      generalize l[k] = ek at c0 hst
      by_cases hz : ek = 0
      · rw [if_pos hz] at hst
        subst hz
        go_wp2
        exact ⟨⟨k + 1, by omega, by go_num, by show _ = _; rw [hr.out, hst.out], hb⟩, by simp [intOf]; omega⟩
      · rw [if_neg hz] at hst
        have hz' : (ek != 0) = true := by simpa using hz
        go_wp2
        go_ret
        exact ⟨retI (by rw [hr.out, hst.out]), hb⟩
    · go_wp2
      go_ret
      exact ⟨retI (by rw [hr.out, List.drop_eq_nil_of_le (by omega)]; rfl), hb⟩

/-- The one order of places. -/
def occCmp (f t : Int) (l : List Int) (f' t' : Int) (l' : List Int) : Int := orF [cmpI t t', cmpI f f', idsCmp l l']

theorem row3 (w : World) (x y z : Int) (t : TypeId) : Ints (w.alloc (.cells #[.int .i64 x, .int .i64 y, .int .i64 z] t)) (some ⟨w.heap.size, 0, none⟩) [x, y, z] := by
  refine ⟨by simp [maxLen], fun _ => ⟨_, _, rfl, by simp, fun i hi => ?_⟩⟩
  have h : (w.alloc (.cells #[.int .i64 x, .int .i64 y, .int .i64 z] t)).heap[w.heap.size]? = some (.cells #[.int .i64 x, .int .i64 y, .int .i64 z] t (0, 0)) := heap_alloc_new w _
  rw [oCell h]
  match i, hi with
  | 0, _ => rfl
  | 1, _ => rfl
  | 2, _ => rfl

set_option maxHeartbeats 1000000 in
theorem occCompare_any (f t : Int) (a : Option Addr) (cap : Nat) (l : List Int) (f' t' : Int) (a' : Option Addr) (cap' : Nat) (l' : List Int) (w : World) (h : Ints w a l) (h' : Ints w a' l') :
    Calls Try.prog 50 #[.agg #[.int .i64 f, .int .i64 t, .slice a l.length cap], .agg #[.int .i64 f', .int .i64 t', .slice a' l'.length cap']] w
      fun e w' => e = .returned (.int .i64 (occCmp f t l f' t' l')) ∧ Below w.heap.size w w' := by
  obtain ⟨w0, hw0⟩ : ∃ w0, w.alloc (.cells #[.int .i64 f, .int .i64 t, .slice a l.length cap] 60) = w0 := ⟨_, rfl⟩
  have hA0 := box3_new w (.int .i64 f) (.int .i64 t) (.slice a l.length cap) 60
  have b00 := oBelow_new w (.cells #[.int .i64 f, .int .i64 t, .slice a l.length cap] 60)
  have hs0 : w0.heap.size = w.heap.size + 1 := by rw [← hw0]; simp
  rw [hw0] at hA0 b00
  obtain ⟨w1, hw1⟩ : ∃ w1, w0.alloc (.cells #[.int .i64 f', .int .i64 t', .slice a' l'.length cap'] 60) = w1 := ⟨_, rfl⟩
  have hX1 := box3_new w0 (.int .i64 f') (.int .i64 t') (.slice a' l'.length cap') 60
  have b01 := oBelow_new w0 (.cells #[.int .i64 f', .int .i64 t', .slice a' l'.length cap'] 60)
  rw [hw1] at hX1 b01
  have hA1 := hA0.below b01
  rw [hs0] at hX1
  have hbw1 := b00.trans (b01.mono b00.size)
  obtain ⟨p0, p1, p2⟩ := hA1.cells
  obtain ⟨q0, q1, q2⟩ := hX1.cells
  have hA1d : Box3 w1.drew w.heap.size (.int .i64 f) (.int .i64 t) (.slice a l.length cap) := hA1
  have hX1d : Box3 w1.drew (w.heap.size + 1) (.int .i64 f') (.int .i64 t') (.slice a' l'.length cap') := hX1
  have b1d := hbw1.drew
  go_enter Try.func50, Try.ntmps50
  go_wp2_with fail
  go_region_held (fun v => (v.cell? ⟨w.heap.size, 0, none⟩ = some (.int .i64 f) ∧ v.cell? ⟨w.heap.size, 1, none⟩ = some (.int .i64 t) ∧ v.cell? ⟨w.heap.size, 2, none⟩ = some (.slice a l.length cap)) ∧
        (v.cell? ⟨w.heap.size + 1, 0, none⟩ = some (.int .i64 f') ∧ v.cell? ⟨w.heap.size + 1, 1, none⟩ = some (.int .i64 t') ∧ v.cell? ⟨w.heap.size + 1, 2, none⟩ = some (.slice a' l'.length cap'))) (go_keep)
    (first
      | (go_at_call 71; refine (cmpInt_any _ _ _).mono ?_; rintro e w' ⟨rfl, rfl⟩)
      | (go_at_call 72; refine (slicesCompare_any _ _ _ _ l l' _ (h.below b1d) (h'.below b1d)).mono ?_; rintro e w2 ⟨rfl, hb2⟩; obtain ⟨r0, r1, r2⟩ := (hX1d.below hb2).cells; obtain ⟨s0, s1, s2⟩ := (hA1d.below hb2).cells)
      | (go_at_call 70; refine (cmpOr_any _ _ [_, _, _] _ (row3 _ _ _ _ _)).mono ?_; rintro e w3 ⟨rfl, hb3⟩; obtain ⟨t0, t1, t2⟩ := (((hX1d.below hb2).below (oBelow_new w2 _)).below hb3).cells; obtain ⟨u0, u1, u2⟩ := (((hA1d.below hb2).below (oBelow_new w2 _)).below hb3).cells))
  have hb4 := (b1d.trans (hb2.mono b1d.size)).trans (((oBelow_new w2 _).trans (hb3.mono (by simp))).mono (b1d.trans (hb2.mono b1d.size)).size)
  go_wp2
  go_ret
  exact ⟨rfl, hb4⟩
theorem below_two (w : World) (o o' : Obj) : Below w.heap.size w ((w.alloc o).alloc o') := ((Below.refl _ _).alloc (Nat.le_refl _) _).alloc (by simp) _

def lessB (f t : Int) (l : List Int) (f' t' : Int) (l' : List Int) : Bool := decide (occCmp f t l f' t' l' < 0)

end Go.Proofs.Ythlddehmebgfoaa
