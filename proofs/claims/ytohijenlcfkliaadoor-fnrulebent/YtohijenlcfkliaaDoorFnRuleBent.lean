/- Whatever bytes a rule and rules are drawn by: a rule that is bent at any one place is not ok, and has no line; a name can be there once alone. No condition. -/
import Derived.Test.YtohijenlcfkliaaDoorRuD3
import Derived.Test.YtohijenlcfkliaaDoorTab
import Derived.Test.YtohijenlcfkliaaDoorCards
import Derived.Test.YtohijenlcfkliaaDoorTie
import Derived.Deep.DeepHandedRow
import Derived.LaidLaws
import Derived.MakeChecks
import Derived.Stop.ErrReads
import Derived.RowKitTokens
namespace Go.Proofs.YtohijenlcfkliaaDoor.fnRuleBent
open Go.ChangeShapes Go.WideShapes Go.ChangeAt Go.RowKit Go.Deep
set_option linter.unusedVariables false
set_option maxRecDepth 4000

theorem rus_two {w : World} {g : Nat} {x : Ru} {a : Option Addr} {c : Nat} (h : Bx w g #[.string x.nm, .int .i64 x.pri, .int .i64 x.mode, .int .i64 x.kd, .int .i64 x.sy, .int .i64 x.n, .slice a x.ks.len c, .int .i64 x.lo, .int .i64 x.hi, .int .i64 x.key, .int .i64 x.add, .int .i64 x.ra, .string x.nm, .int .i64 x.pri, .int .i64 x.mode, .int .i64 x.kd, .int .i64 x.sy, .int .i64 x.n, .slice a x.ks.len c, .int .i64 x.lo, .int .i64 x.hi, .int .i64 x.key, .int .i64 x.add, .int .i64 x.ra]) (hi : RuIn w a x) : Rus w (some ⟨g, 0, none⟩) [x, x] :=
  ⟨by show 2 ≤ maxLen; unfold maxLen; omega, fun _ => ⟨g, 0, rfl, h.lt, fun i hi' => match i, hi' with
    | 0, _ => ⟨a, c, ⟨h.cell 0 rfl, h.cell 1 rfl, h.cell 2 rfl, h.cell 3 rfl, h.cell 4 rfl, h.cell 5 rfl, h.cell 6 rfl, h.cell 7 rfl, h.cell 8 rfl, h.cell 9 rfl, h.cell 10 rfl, h.cell 11 rfl⟩, hi⟩
    | 1, _ => ⟨a, c, ⟨h.cell 12 rfl, h.cell 13 rfl, h.cell 14 rfl, h.cell 15 rfl, h.cell 16 rfl, h.cell 17 rfl, h.cell 18 rfl, h.cell 19 rfl, h.cell 20 rfl, h.cell 21 rfl, h.cell 22 rfl, h.cell 23 rfl⟩, hi⟩⟩⟩
theorem rus_one {w : World} {g : Nat} {x : Ru} {a : Option Addr} {c : Nat} (h : Bx w g #[.string x.nm, .int .i64 x.pri, .int .i64 x.mode, .int .i64 x.kd, .int .i64 x.sy, .int .i64 x.n, .slice a x.ks.len c, .int .i64 x.lo, .int .i64 x.hi, .int .i64 x.key, .int .i64 x.add, .int .i64 x.ra]) (hi : RuIn w a x) : Rus w (some ⟨g, 0, none⟩) [x] :=
  ⟨by show 1 ≤ maxLen; unfold maxLen; omega, fun _ => ⟨g, 0, rfl, h.lt, fun i hi' => match i, hi' with
    | 0, _ => ⟨a, c, ⟨h.cell 0 rfl, h.cell 1 rfl, h.cell 2 rfl, h.cell 3 rfl, h.cell 4 rfl, h.cell 5 rfl, h.cell 6 rfl, h.cell 7 rfl, h.cell 8 rfl, h.cell 9 rfl, h.cell 10 rfl, h.cell 11 rfl⟩, hi⟩⟩⟩
theorem ok_two (x : Ru) : rulesOkB [x, x] = false := by
  refine rulesOk_no (i := 1) (by simp) ?_
  rw [okAtB_get (by simp)]
  simp [hasNm]
theorem ok_one {x : Ru} (h : ruOkB x = true) : rulesOkB [x] = true := by
  refine rulesOk_yes (by simp) fun i hi => ?_
  have hi : i < 1 := by simpa using hi
  obtain rfl : i = 0 := by omega
  rw [okAtB_get (by simp)]
  simp [h, hasNm]
theorem in_nm {w : World} {a : Option Addr} {x : Ru} (h : RuIn w a x) (s : ByteArray) (hs : s.size ≤ maxLen) : RuIn w a { x with nm := s } := ⟨h.ks, hs⟩
theorem in_hi {w : World} {a : Option Addr} {x : Ru} (h : RuIn w a x) (n : Int) : RuIn w a { x with hi := n } := ⟨h.ks, h.nm⟩
theorem in_key {w : World} {a : Option Addr} {x : Ru} (h : RuIn w a x) (n : Int) : RuIn w a { x with key := n } := ⟨h.ks, h.nm⟩
theorem in_add {w : World} {a : Option Addr} {x : Ru} (h : RuIn w a x) (n : Int) : RuIn w a { x with add := n } := ⟨h.ks, h.nm⟩
theorem in_ra {w : World} {a : Option Addr} {x : Ru} (h : RuIn w a x) (n : Int) : RuIn w a { x with ra := n } := ⟨h.ks, h.nm⟩
theorem in_mode {w : World} {a : Option Addr} {x : Ru} (h : RuIn w a x) (n : Int) : RuIn w a { x with mode := n } := ⟨h.ks, h.nm⟩

set_option maxHeartbeats 4000000 in
theorem walk (a : Option Addr) (cap : Nat) (bs : List Int) (w : World) (t : TypeId) (v : Value) (h : Bytes w a bs ∧ bs.length ≤ cap) (hE : ErrAt w t v) (hTab : Tab w) :
    Calls Tryd.prog 4 #[.slice a bs.length cap] w fun e w' => e = .returned (.bool true) ∧ Below w.heap.size w w' := by
  obtain ⟨hB, hc⟩ := h
  have hlen := hB.len
  unfold maxLen at hlen
  by_cases hbig : (1048576 : Int) < (bs.length : Int)
  · go_enter Tryd.func4, Tryd.ntmps4
    go_wp2
    go_ret
    exact ⟨rfl, Below.refl _ _⟩
  go_enter Tryd.func4, Tryd.ntmps4
  go_wp2_with fail
  refine (drawRuleOk_any _ _ bs _ hB hc).mono ?_
  rintro e w1 ⟨x, xa, xc, rfl, hin, hbnd, hb1⟩
  obtain ⟨w2, hw2⟩ : ∃ w2, w1.alloc (.cells (ruC x xa xc) 36) = w2 := ⟨_, rfl⟩
  have hA := bx_new w1 (ruC x xa xc) 36
  have hb2 := xBelow_new w1 (.cells (ruC x xa xc) 36)
  rw [hw2] at hA hb2
  obtain ⟨A, hAe⟩ : ∃ A, w1.heap.size = A := ⟨_, rfl⟩
  rw [hAe] at hA
  have b02 := hb1.trans (hb2.mono hb1.size)
  unfold ruV
  unfold ruC at hw2 ⊢
  go_wp2_with fail
  refine (drawRulesOk_any _ _ bs _ (hB.below b02) hc).mono ?_
  rintro e w3 ⟨v1, q, rfl, hO, hq4, hqb, hb3⟩
  obtain ⟨va, vc, rfl, hvc, hvm⟩ := hO.slice
  unfold maxLen at hvm
  have b03 := b02.trans (hb3.mono b02.size)
  have hA3 := hA.below hb3
  have hin3 := (hin.below hb2).below hb3
  have hE3 := hE.below b03
  have hrus := hO.rus (by unfold maxLen; omega)
  have hks : ∀ y ∈ q.map (·.x), y.ks.size ≤ 1048576 := fun y hy => by
    obtain ⟨z, hz, rfl⟩ := List.mem_map.1 hy
    have := (hqb z hz).1
    omega
  have hxs : x.ks.size ≤ 1048576 := by have := hbnd.1; omega
  have hml : (q.map (·.x)).length = q.length := by simp
  have hcI := fun (u : After w3) => calls_after (u := u) (implRuleOk_any x xa xc u.v t v (hE3.below u.h) (hin3.below u.h))
  have hcS := fun (u : After w3) => calls_after (u := u) (specRuleOk_any x xa xc u.v (hin3.below u.h) hxs)
  have hcL := fun (u : After w3) => calls_after (u := u) (implRulesOk_any va vc (q.map (·.x)) u.v t v (hE3.below u.h) (hrus.below u.h) (by omega) (by omega))
  have hcM := fun (u : After w3) => calls_after (u := u) (specRulesOk_any va vc (q.map (·.x)) u.v (hrus.below u.h) hks)
  rw [hml] at hcL hcM
  unfold ruV ruC at hcI hcS
  obtain ⟨G, hG⟩ : ∃ G, rulesOkB (q.map (·.x)) = G := ⟨_, rfl⟩
  rw [hG] at hcL hcM
  obtain ⟨q0, q1, q2, q3, q4, q5, q6, q7, q8, q9, q10, q11⟩ := hA3.twelve
  simp only [Nat.zero_add] at q0 q1 q2 q3 q4 q5 q6 q7 q8 q9 q10 q11
  have a0 := fun u : After w3 => u.cell q0 hA3.lt
  have a1 := fun u : After w3 => u.cell q1 hA3.lt
  have a2 := fun u : After w3 => u.cell q2 hA3.lt
  have a3 := fun u : After w3 => u.cell q3 hA3.lt
  have a4 := fun u : After w3 => u.cell q4 hA3.lt
  have a5 := fun u : After w3 => u.cell q5 hA3.lt
  have a6 := fun u : After w3 => u.cell q6 hA3.lt
  have a7 := fun u : After w3 => u.cell q7 hA3.lt
  have a8 := fun u : After w3 => u.cell q8 hA3.lt
  have a9 := fun u : After w3 => u.cell q9 hA3.lt
  have a10 := fun u : After w3 => u.cell q10 hA3.lt
  have a11 := fun u : After w3 => u.cell q11 hA3.lt
  clear hw2 hG hml
  cases hok : ruOkB x
  · rw [hok] at hcI hcS
    cases G
    all_goals
      go_wp2
      have hany := after_any
      refine wp_region_after (by kernel_rfl) (by kernel_rfl) ?_
      repeat (go_big_quiet_step (first | (go_at_call 15; refine hcI _) | (go_at_call 16; refine hcS _) | (go_at_call 9; refine hcL _) | (go_at_call 10; refine hcM _)))
      refine wpQuiet_nil ?_
      intro w4 hu
      have hb4 := after_of hu
      have hA4 := hA3.below hb4
      have hin4 := hin3.below hb4
      have hE4 := hE3.below hb4
      have b04 := b03.trans (hb4.mono b03.size)
      clear hu a0 a1 a2 a3 a4 a5 a6 a7 a8 a9 a10 a11 q0 q1 q2 q3 q4 q5 q6 q7 q8 q9 q10 q11 hcI hcS hcL hcM hany
      have hcI := fun (u : After w4) => calls_after (u := u) (implRuleOk_any x xa xc u.v t v (hE4.below u.h) (hin4.below u.h))
      have hcS := fun (u : After w4) => calls_after (u := u) (specRuleOk_any x xa xc u.v (hin4.below u.h) hxs)
      unfold ruV ruC at hcI hcS
      rw [hok] at hcI hcS
      obtain ⟨q0, q1, q2, q3, q4, q5, q6, q7, q8, q9, q10, q11⟩ := hA4.twelve
      simp only [Nat.zero_add] at q0 q1 q2 q3 q4 q5 q6 q7 q8 q9 q10 q11
      have a0 := fun u : After w4 => u.cell q0 hA4.lt
      have a1 := fun u : After w4 => u.cell q1 hA4.lt
      have a2 := fun u : After w4 => u.cell q2 hA4.lt
      have a3 := fun u : After w4 => u.cell q3 hA4.lt
      have a4 := fun u : After w4 => u.cell q4 hA4.lt
      have a5 := fun u : After w4 => u.cell q5 hA4.lt
      have a6 := fun u : After w4 => u.cell q6 hA4.lt
      have a7 := fun u : After w4 => u.cell q7 hA4.lt
      have a8 := fun u : After w4 => u.cell q8 hA4.lt
      have a9 := fun u : After w4 => u.cell q9 hA4.lt
      have a10 := fun u : After w4 => u.cell q10 hA4.lt
      have a11 := fun u : After w4 => u.cell q11 hA4.lt
      go_wp2
      have hany := after_any
      refine wp_region_after (by kernel_rfl) (by kernel_rfl) ?_
      repeat (go_big_quiet_step (first | (go_at_call 15; refine hcI _) | (go_at_call 16; refine hcS _)))
      refine wpQuiet_nil ?_
      intro w5 hu
      have b05 := b04.trans ((after_of hu).mono b04.size)
      clear hu
      go_wp2
      go_ret
      exact ⟨rfl, b05⟩
  rw [hok] at hcI hcS
  cases G
  all_goals
    go_wp2
    have hany := after_any
    refine wp_region_after (by kernel_rfl) (by kernel_rfl) ?_
    repeat (go_big_quiet_step (first | (go_at_call 15; refine hcI _) | (go_at_call 16; refine hcS _) | (go_at_call 9; refine hcL _) | (go_at_call 10; refine hcM _)))
    refine wpQuiet_nil ?_
    intro w4 hu
    have hb4 := after_of hu
    have hA4 := hA3.below hb4
    have hin4 := hin3.below hb4
    have hE4 := hE3.below hb4
    have b04 := b03.trans (hb4.mono b03.size)
    clear hu a0 a1 a2 a3 a4 a5 a6 a7 a8 a9 a10 a11 q0 q1 q2 q3 q4 q5 q6 q7 q8 q9 q10 q11 hcI hcS hcL hcM hany
    have hlo : 0 ≤ x.lo ∧ x.lo ≤ 100 := by
      have := hok
      unfold ruOkB at this
      simp only [Bool.and_eq_true, decide_eq_true_eq] at this
      omega
    have hnm7 : x.nm.size ≤ 7 := hbnd.2
    have hadd : ¬ (9223372036854775807 < x.nm.size + 6) := by omega
    obtain ⟨u5, hu5⟩ : ∃ u, w4.alloc (.cells #[.string x.nm, .int .i64 x.pri, .int .i64 x.mode, .int .i64 x.kd, .int .i64 x.sy, .int .i64 x.n, .slice xa x.ks.len xc, .int .i64 x.lo, .int .i64 x.hi, .int .i64 x.key, .int .i64 x.add, .int .i64 x.ra] 36) = u := ⟨_, rfl⟩
    have hN5 := ob_new w4 #[.string x.nm, .int .i64 x.pri, .int .i64 x.mode, .int .i64 x.kd, .int .i64 x.sy, .int .i64 x.n, .slice xa x.ks.len xc, .int .i64 x.lo, .int .i64 x.hi, .int .i64 x.key, .int .i64 x.add, .int .i64 x.ra] 36
    have bN5 := xBelow_new w4 (.cells #[.string x.nm, .int .i64 x.pri, .int .i64 x.mode, .int .i64 x.kd, .int .i64 x.sy, .int .i64 x.n, .slice xa x.ks.len xc, .int .i64 x.lo, .int .i64 x.hi, .int .i64 x.key, .int .i64 x.add, .int .i64 x.ra] 36)
    rw [hu5] at hN5 bN5
    obtain ⟨B5, hB5⟩ : ∃ B, w4.heap.size = B := ⟨_, rfl⟩
    have lA5 : A < B5 := by rw [← hB5]; exact hA4.lt
    rw [hB5] at hN5
    have hAu5 := hA4.below bN5
    obtain ⟨w5, hw5⟩ : ∃ u, u5.setCell ⟨B5, 0, none⟩ (.string (x.nm ++ { data := #[97, 97, 97, 97, 97, 97] })) = u := ⟨_, rfl⟩
    have hA5 : Bx w5 A (ruC x xa xc) := by rw [← hw5]; exact hAu5.other (by omega) _ _
    have hO5_5 : OB w5 B5 #[.string (x.nm ++ { data := #[97, 97, 97, 97, 97, 97] }), .int .i64 x.pri, .int .i64 x.mode, .int .i64 x.kd, .int .i64 x.sy, .int .i64 x.n, .slice xa x.ks.len xc, .int .i64 x.lo, .int .i64 x.hi, .int .i64 x.key, .int .i64 x.add, .int .i64 x.ra] := by rw [← hw5]; exact hN5.set 0 _
    have bu5 := b04.trans (bN5.mono b04.size)
    have b05 : Below w.heap.size w w5 := by rw [← hw5]; exact bu5.setCell (by show _ ≤ B5; have := b04.size; omega) _
    have b45 : Below w4.heap.size w4 w5 := by rw [← hw5]; exact (bN5).setCell (by show _ ≤ B5; omega) _
    obtain ⟨q0, q1, q2, q3, q4, q5, q6, q7, q8, q9, q10, q11⟩ := hA4.twelve
    simp only [Nat.zero_add] at q0 q1 q2 q3 q4 q5 q6 q7 q8 q9 q10 q11
    have c0 := hN5.at 0
    have f0 := hN5.free
    have s0 : u5.cell? ⟨A, 0, none⟩ = some (.string x.nm) := hAu5.cell 0 rfl
    go_upto_region 9 with fail
    clear q0 q1 q2 q3 q4 q5 q6 q7 q8 q9 q10 q11 c0 f0 hu5 hw5 s0
    obtain ⟨u6, hu6⟩ : ∃ u, w5.alloc (.cells #[.string x.nm, .int .i64 x.pri, .int .i64 x.mode, .int .i64 x.kd, .int .i64 x.sy, .int .i64 x.n, .slice xa x.ks.len xc, .int .i64 x.lo, .int .i64 x.hi, .int .i64 x.key, .int .i64 x.add, .int .i64 x.ra] 36) = u := ⟨_, rfl⟩
    have hN6 := ob_new w5 #[.string x.nm, .int .i64 x.pri, .int .i64 x.mode, .int .i64 x.kd, .int .i64 x.sy, .int .i64 x.n, .slice xa x.ks.len xc, .int .i64 x.lo, .int .i64 x.hi, .int .i64 x.key, .int .i64 x.add, .int .i64 x.ra] 36
    have bN6 := xBelow_new w5 (.cells #[.string x.nm, .int .i64 x.pri, .int .i64 x.mode, .int .i64 x.kd, .int .i64 x.sy, .int .i64 x.n, .slice xa x.ks.len xc, .int .i64 x.lo, .int .i64 x.hi, .int .i64 x.key, .int .i64 x.add, .int .i64 x.ra] 36)
    rw [hu6] at hN6 bN6
    obtain ⟨B6, hB6⟩ : ∃ B, w5.heap.size = B := ⟨_, rfl⟩
    have lA6 : A < B6 := by rw [← hB6]; exact hA5.lt
    have l5_6 : B5 < B6 := by rw [← hB6]; exact hO5_5.lt
    rw [hB6] at hN6
    have hAu6 := hA5.below bN6
    have hOu5_6 := hO5_5.below bN6
    obtain ⟨w6, hw6⟩ : ∃ u, u6.setCell ⟨B6, 8, none⟩ (.int .i64 (x.lo - 1)) = u := ⟨_, rfl⟩
    have hA6 : Bx w6 A (ruC x xa xc) := by rw [← hw6]; exact hAu6.other (by omega) _ _
    have hO6_6 : OB w6 B6 #[.string x.nm, .int .i64 x.pri, .int .i64 x.mode, .int .i64 x.kd, .int .i64 x.sy, .int .i64 x.n, .slice xa x.ks.len xc, .int .i64 x.lo, .int .i64 (x.lo - 1), .int .i64 x.key, .int .i64 x.add, .int .i64 x.ra] := by rw [← hw6]; exact hN6.set 8 _
    have hO5_6 : OB w6 B5 #[.string (x.nm ++ { data := #[97, 97, 97, 97, 97, 97] }), .int .i64 x.pri, .int .i64 x.mode, .int .i64 x.kd, .int .i64 x.sy, .int .i64 x.n, .slice xa x.ks.len xc, .int .i64 x.lo, .int .i64 x.hi, .int .i64 x.key, .int .i64 x.add, .int .i64 x.ra] := by rw [← hw6]; exact hOu5_6.other (by omega) _ _
    have bu6 := b05.trans (bN6.mono b05.size)
    have b06 : Below w.heap.size w w6 := by rw [← hw6]; exact bu6.setCell (by show _ ≤ B6; have := b05.size; omega) _
    have b46 : Below w4.heap.size w4 w6 := by rw [← hw6]; exact (b45.trans (bN6.mono b45.size)).setCell (by show _ ≤ B6; have := b45.size; omega) _
    obtain ⟨q0, q1, q2, q3, q4, q5, q6, q7, q8, q9, q10, q11⟩ := hA5.twelve
    simp only [Nat.zero_add] at q0 q1 q2 q3 q4 q5 q6 q7 q8 q9 q10 q11
    have c0 := hN6.at 8
    have f0 := hN6.free
    have s0 : u6.cell? ⟨A, 7, none⟩ = some (.int .i64 x.lo) := hAu6.cell 7 rfl
    go_upto_region 11 with fail
    clear q0 q1 q2 q3 q4 q5 q6 q7 q8 q9 q10 q11 c0 f0 hu6 hw6 s0
    obtain ⟨u7, hu7⟩ : ∃ u, w6.alloc (.cells #[.string x.nm, .int .i64 x.pri, .int .i64 x.mode, .int .i64 x.kd, .int .i64 x.sy, .int .i64 x.n, .slice xa x.ks.len xc, .int .i64 x.lo, .int .i64 x.hi, .int .i64 x.key, .int .i64 x.add, .int .i64 x.ra] 36) = u := ⟨_, rfl⟩
    have hN7 := ob_new w6 #[.string x.nm, .int .i64 x.pri, .int .i64 x.mode, .int .i64 x.kd, .int .i64 x.sy, .int .i64 x.n, .slice xa x.ks.len xc, .int .i64 x.lo, .int .i64 x.hi, .int .i64 x.key, .int .i64 x.add, .int .i64 x.ra] 36
    have bN7 := xBelow_new w6 (.cells #[.string x.nm, .int .i64 x.pri, .int .i64 x.mode, .int .i64 x.kd, .int .i64 x.sy, .int .i64 x.n, .slice xa x.ks.len xc, .int .i64 x.lo, .int .i64 x.hi, .int .i64 x.key, .int .i64 x.add, .int .i64 x.ra] 36)
    rw [hu7] at hN7 bN7
    obtain ⟨B7, hB7⟩ : ∃ B, w6.heap.size = B := ⟨_, rfl⟩
    have lA7 : A < B7 := by rw [← hB7]; exact hA6.lt
    have l5_7 : B5 < B7 := by rw [← hB7]; exact hO5_6.lt
    have l6_7 : B6 < B7 := by rw [← hB7]; exact hO6_6.lt
    rw [hB7] at hN7
    have hAu7 := hA6.below bN7
    have hOu5_7 := hO5_6.below bN7
    have hOu6_7 := hO6_6.below bN7
    obtain ⟨w7, hw7⟩ : ∃ u, u7.setCell ⟨B7, 9, none⟩ (.int .i64 (-1)) = u := ⟨_, rfl⟩
    have hA7 : Bx w7 A (ruC x xa xc) := by rw [← hw7]; exact hAu7.other (by omega) _ _
    have hO7_7 : OB w7 B7 #[.string x.nm, .int .i64 x.pri, .int .i64 x.mode, .int .i64 x.kd, .int .i64 x.sy, .int .i64 x.n, .slice xa x.ks.len xc, .int .i64 x.lo, .int .i64 x.hi, .int .i64 (-1), .int .i64 x.add, .int .i64 x.ra] := by rw [← hw7]; exact hN7.set 9 _
    have hO5_7 : OB w7 B5 #[.string (x.nm ++ { data := #[97, 97, 97, 97, 97, 97] }), .int .i64 x.pri, .int .i64 x.mode, .int .i64 x.kd, .int .i64 x.sy, .int .i64 x.n, .slice xa x.ks.len xc, .int .i64 x.lo, .int .i64 x.hi, .int .i64 x.key, .int .i64 x.add, .int .i64 x.ra] := by rw [← hw7]; exact hOu5_7.other (by omega) _ _
    have hO6_7 : OB w7 B6 #[.string x.nm, .int .i64 x.pri, .int .i64 x.mode, .int .i64 x.kd, .int .i64 x.sy, .int .i64 x.n, .slice xa x.ks.len xc, .int .i64 x.lo, .int .i64 (x.lo - 1), .int .i64 x.key, .int .i64 x.add, .int .i64 x.ra] := by rw [← hw7]; exact hOu6_7.other (by omega) _ _
    have bu7 := b06.trans (bN7.mono b06.size)
    have b07 : Below w.heap.size w w7 := by rw [← hw7]; exact bu7.setCell (by show _ ≤ B7; have := b06.size; omega) _
    have b47 : Below w4.heap.size w4 w7 := by rw [← hw7]; exact (b46.trans (bN7.mono b46.size)).setCell (by show _ ≤ B7; have := b46.size; omega) _
    obtain ⟨q0, q1, q2, q3, q4, q5, q6, q7, q8, q9, q10, q11⟩ := hA6.twelve
    simp only [Nat.zero_add] at q0 q1 q2 q3 q4 q5 q6 q7 q8 q9 q10 q11
    have c0 := hN7.at 9
    have f0 := hN7.free
    go_upto_region 13 with fail
    clear q0 q1 q2 q3 q4 q5 q6 q7 q8 q9 q10 q11 c0 f0 hu7 hw7
    obtain ⟨u8, hu8⟩ : ∃ u, w7.alloc (.cells #[.string x.nm, .int .i64 x.pri, .int .i64 x.mode, .int .i64 x.kd, .int .i64 x.sy, .int .i64 x.n, .slice xa x.ks.len xc, .int .i64 x.lo, .int .i64 x.hi, .int .i64 x.key, .int .i64 x.add, .int .i64 x.ra] 36) = u := ⟨_, rfl⟩
    have hN8 := ob_new w7 #[.string x.nm, .int .i64 x.pri, .int .i64 x.mode, .int .i64 x.kd, .int .i64 x.sy, .int .i64 x.n, .slice xa x.ks.len xc, .int .i64 x.lo, .int .i64 x.hi, .int .i64 x.key, .int .i64 x.add, .int .i64 x.ra] 36
    have bN8 := xBelow_new w7 (.cells #[.string x.nm, .int .i64 x.pri, .int .i64 x.mode, .int .i64 x.kd, .int .i64 x.sy, .int .i64 x.n, .slice xa x.ks.len xc, .int .i64 x.lo, .int .i64 x.hi, .int .i64 x.key, .int .i64 x.add, .int .i64 x.ra] 36)
    rw [hu8] at hN8 bN8
    obtain ⟨B8, hB8⟩ : ∃ B, w7.heap.size = B := ⟨_, rfl⟩
    have lA8 : A < B8 := by rw [← hB8]; exact hA7.lt
    have l5_8 : B5 < B8 := by rw [← hB8]; exact hO5_7.lt
    have l6_8 : B6 < B8 := by rw [← hB8]; exact hO6_7.lt
    have l7_8 : B7 < B8 := by rw [← hB8]; exact hO7_7.lt
    rw [hB8] at hN8
    have hAu8 := hA7.below bN8
    have hOu5_8 := hO5_7.below bN8
    have hOu6_8 := hO6_7.below bN8
    have hOu7_8 := hO7_7.below bN8
    obtain ⟨w8, hw8⟩ : ∃ u, u8.setCell ⟨B8, 10, none⟩ (.int .i64 10) = u := ⟨_, rfl⟩
    have hA8 : Bx w8 A (ruC x xa xc) := by rw [← hw8]; exact hAu8.other (by omega) _ _
    have hO8_8 : OB w8 B8 #[.string x.nm, .int .i64 x.pri, .int .i64 x.mode, .int .i64 x.kd, .int .i64 x.sy, .int .i64 x.n, .slice xa x.ks.len xc, .int .i64 x.lo, .int .i64 x.hi, .int .i64 x.key, .int .i64 10, .int .i64 x.ra] := by rw [← hw8]; exact hN8.set 10 _
    have hO5_8 : OB w8 B5 #[.string (x.nm ++ { data := #[97, 97, 97, 97, 97, 97] }), .int .i64 x.pri, .int .i64 x.mode, .int .i64 x.kd, .int .i64 x.sy, .int .i64 x.n, .slice xa x.ks.len xc, .int .i64 x.lo, .int .i64 x.hi, .int .i64 x.key, .int .i64 x.add, .int .i64 x.ra] := by rw [← hw8]; exact hOu5_8.other (by omega) _ _
    have hO6_8 : OB w8 B6 #[.string x.nm, .int .i64 x.pri, .int .i64 x.mode, .int .i64 x.kd, .int .i64 x.sy, .int .i64 x.n, .slice xa x.ks.len xc, .int .i64 x.lo, .int .i64 (x.lo - 1), .int .i64 x.key, .int .i64 x.add, .int .i64 x.ra] := by rw [← hw8]; exact hOu6_8.other (by omega) _ _
    have hO7_8 : OB w8 B7 #[.string x.nm, .int .i64 x.pri, .int .i64 x.mode, .int .i64 x.kd, .int .i64 x.sy, .int .i64 x.n, .slice xa x.ks.len xc, .int .i64 x.lo, .int .i64 x.hi, .int .i64 (-1), .int .i64 x.add, .int .i64 x.ra] := by rw [← hw8]; exact hOu7_8.other (by omega) _ _
    have bu8 := b07.trans (bN8.mono b07.size)
    have b08 : Below w.heap.size w w8 := by rw [← hw8]; exact bu8.setCell (by show _ ≤ B8; have := b07.size; omega) _
    have b48 : Below w4.heap.size w4 w8 := by rw [← hw8]; exact (b47.trans (bN8.mono b47.size)).setCell (by show _ ≤ B8; have := b47.size; omega) _
    obtain ⟨q0, q1, q2, q3, q4, q5, q6, q7, q8, q9, q10, q11⟩ := hA7.twelve
    simp only [Nat.zero_add] at q0 q1 q2 q3 q4 q5 q6 q7 q8 q9 q10 q11
    have c0 := hN8.at 10
    have f0 := hN8.free
    go_upto_region 15 with fail
    clear q0 q1 q2 q3 q4 q5 q6 q7 q8 q9 q10 q11 c0 f0 hu8 hw8
    obtain ⟨u9, hu9⟩ : ∃ u, w8.alloc (.cells #[.string x.nm, .int .i64 x.pri, .int .i64 x.mode, .int .i64 x.kd, .int .i64 x.sy, .int .i64 x.n, .slice xa x.ks.len xc, .int .i64 x.lo, .int .i64 x.hi, .int .i64 x.key, .int .i64 x.add, .int .i64 x.ra] 36) = u := ⟨_, rfl⟩
    have hN9 := ob_new w8 #[.string x.nm, .int .i64 x.pri, .int .i64 x.mode, .int .i64 x.kd, .int .i64 x.sy, .int .i64 x.n, .slice xa x.ks.len xc, .int .i64 x.lo, .int .i64 x.hi, .int .i64 x.key, .int .i64 x.add, .int .i64 x.ra] 36
    have bN9 := xBelow_new w8 (.cells #[.string x.nm, .int .i64 x.pri, .int .i64 x.mode, .int .i64 x.kd, .int .i64 x.sy, .int .i64 x.n, .slice xa x.ks.len xc, .int .i64 x.lo, .int .i64 x.hi, .int .i64 x.key, .int .i64 x.add, .int .i64 x.ra] 36)
    rw [hu9] at hN9 bN9
    obtain ⟨B9, hB9⟩ : ∃ B, w8.heap.size = B := ⟨_, rfl⟩
    have lA9 : A < B9 := by rw [← hB9]; exact hA8.lt
    have l5_9 : B5 < B9 := by rw [← hB9]; exact hO5_8.lt
    have l6_9 : B6 < B9 := by rw [← hB9]; exact hO6_8.lt
    have l7_9 : B7 < B9 := by rw [← hB9]; exact hO7_8.lt
    have l8_9 : B8 < B9 := by rw [← hB9]; exact hO8_8.lt
    rw [hB9] at hN9
    have hAu9 := hA8.below bN9
    have hOu5_9 := hO5_8.below bN9
    have hOu6_9 := hO6_8.below bN9
    have hOu7_9 := hO7_8.below bN9
    have hOu8_9 := hO8_8.below bN9
    obtain ⟨w9, hw9⟩ : ∃ u, u9.setCell ⟨B9, 11, none⟩ (.int .i64 5) = u := ⟨_, rfl⟩
    have hA9 : Bx w9 A (ruC x xa xc) := by rw [← hw9]; exact hAu9.other (by omega) _ _
    have hO9_9 : OB w9 B9 #[.string x.nm, .int .i64 x.pri, .int .i64 x.mode, .int .i64 x.kd, .int .i64 x.sy, .int .i64 x.n, .slice xa x.ks.len xc, .int .i64 x.lo, .int .i64 x.hi, .int .i64 x.key, .int .i64 x.add, .int .i64 5] := by rw [← hw9]; exact hN9.set 11 _
    have hO5_9 : OB w9 B5 #[.string (x.nm ++ { data := #[97, 97, 97, 97, 97, 97] }), .int .i64 x.pri, .int .i64 x.mode, .int .i64 x.kd, .int .i64 x.sy, .int .i64 x.n, .slice xa x.ks.len xc, .int .i64 x.lo, .int .i64 x.hi, .int .i64 x.key, .int .i64 x.add, .int .i64 x.ra] := by rw [← hw9]; exact hOu5_9.other (by omega) _ _
    have hO6_9 : OB w9 B6 #[.string x.nm, .int .i64 x.pri, .int .i64 x.mode, .int .i64 x.kd, .int .i64 x.sy, .int .i64 x.n, .slice xa x.ks.len xc, .int .i64 x.lo, .int .i64 (x.lo - 1), .int .i64 x.key, .int .i64 x.add, .int .i64 x.ra] := by rw [← hw9]; exact hOu6_9.other (by omega) _ _
    have hO7_9 : OB w9 B7 #[.string x.nm, .int .i64 x.pri, .int .i64 x.mode, .int .i64 x.kd, .int .i64 x.sy, .int .i64 x.n, .slice xa x.ks.len xc, .int .i64 x.lo, .int .i64 x.hi, .int .i64 (-1), .int .i64 x.add, .int .i64 x.ra] := by rw [← hw9]; exact hOu7_9.other (by omega) _ _
    have hO8_9 : OB w9 B8 #[.string x.nm, .int .i64 x.pri, .int .i64 x.mode, .int .i64 x.kd, .int .i64 x.sy, .int .i64 x.n, .slice xa x.ks.len xc, .int .i64 x.lo, .int .i64 x.hi, .int .i64 x.key, .int .i64 10, .int .i64 x.ra] := by rw [← hw9]; exact hOu8_9.other (by omega) _ _
    have bu9 := b08.trans (bN9.mono b08.size)
    have b09 : Below w.heap.size w w9 := by rw [← hw9]; exact bu9.setCell (by show _ ≤ B9; have := b08.size; omega) _
    have b49 : Below w4.heap.size w4 w9 := by rw [← hw9]; exact (b48.trans (bN9.mono b48.size)).setCell (by show _ ≤ B9; have := b48.size; omega) _
    obtain ⟨q0, q1, q2, q3, q4, q5, q6, q7, q8, q9, q10, q11⟩ := hA8.twelve
    simp only [Nat.zero_add] at q0 q1 q2 q3 q4 q5 q6 q7 q8 q9 q10 q11
    have c0 := hN9.at 11
    have f0 := hN9.free
    go_upto_region 17 with fail
    clear q0 q1 q2 q3 q4 q5 q6 q7 q8 q9 q10 q11 c0 f0 hu9 hw9
    obtain ⟨u10, hu10⟩ : ∃ u, w9.alloc (.cells #[.string x.nm, .int .i64 x.pri, .int .i64 x.mode, .int .i64 x.kd, .int .i64 x.sy, .int .i64 x.n, .slice xa x.ks.len xc, .int .i64 x.lo, .int .i64 x.hi, .int .i64 x.key, .int .i64 x.add, .int .i64 x.ra] 36) = u := ⟨_, rfl⟩
    have hN10 := ob_new w9 #[.string x.nm, .int .i64 x.pri, .int .i64 x.mode, .int .i64 x.kd, .int .i64 x.sy, .int .i64 x.n, .slice xa x.ks.len xc, .int .i64 x.lo, .int .i64 x.hi, .int .i64 x.key, .int .i64 x.add, .int .i64 x.ra] 36
    have bN10 := xBelow_new w9 (.cells #[.string x.nm, .int .i64 x.pri, .int .i64 x.mode, .int .i64 x.kd, .int .i64 x.sy, .int .i64 x.n, .slice xa x.ks.len xc, .int .i64 x.lo, .int .i64 x.hi, .int .i64 x.key, .int .i64 x.add, .int .i64 x.ra] 36)
    rw [hu10] at hN10 bN10
    obtain ⟨B10, hB10⟩ : ∃ B, w9.heap.size = B := ⟨_, rfl⟩
    have lA10 : A < B10 := by rw [← hB10]; exact hA9.lt
    have l5_10 : B5 < B10 := by rw [← hB10]; exact hO5_9.lt
    have l6_10 : B6 < B10 := by rw [← hB10]; exact hO6_9.lt
    have l7_10 : B7 < B10 := by rw [← hB10]; exact hO7_9.lt
    have l8_10 : B8 < B10 := by rw [← hB10]; exact hO8_9.lt
    have l9_10 : B9 < B10 := by rw [← hB10]; exact hO9_9.lt
    rw [hB10] at hN10
    have hAu10 := hA9.below bN10
    have hOu5_10 := hO5_9.below bN10
    have hOu6_10 := hO6_9.below bN10
    have hOu7_10 := hO7_9.below bN10
    have hOu8_10 := hO8_9.below bN10
    have hOu9_10 := hO9_9.below bN10
    obtain ⟨w10, hw10⟩ : ∃ u, u10.setCell ⟨B10, 2, none⟩ (.int .i64 5) = u := ⟨_, rfl⟩
    have hA10 : Bx w10 A (ruC x xa xc) := by rw [← hw10]; exact hAu10.other (by omega) _ _
    have hO10_10 : OB w10 B10 #[.string x.nm, .int .i64 x.pri, .int .i64 5, .int .i64 x.kd, .int .i64 x.sy, .int .i64 x.n, .slice xa x.ks.len xc, .int .i64 x.lo, .int .i64 x.hi, .int .i64 x.key, .int .i64 x.add, .int .i64 x.ra] := by rw [← hw10]; exact hN10.set 2 _
    have hO5_10 : OB w10 B5 #[.string (x.nm ++ { data := #[97, 97, 97, 97, 97, 97] }), .int .i64 x.pri, .int .i64 x.mode, .int .i64 x.kd, .int .i64 x.sy, .int .i64 x.n, .slice xa x.ks.len xc, .int .i64 x.lo, .int .i64 x.hi, .int .i64 x.key, .int .i64 x.add, .int .i64 x.ra] := by rw [← hw10]; exact hOu5_10.other (by omega) _ _
    have hO6_10 : OB w10 B6 #[.string x.nm, .int .i64 x.pri, .int .i64 x.mode, .int .i64 x.kd, .int .i64 x.sy, .int .i64 x.n, .slice xa x.ks.len xc, .int .i64 x.lo, .int .i64 (x.lo - 1), .int .i64 x.key, .int .i64 x.add, .int .i64 x.ra] := by rw [← hw10]; exact hOu6_10.other (by omega) _ _
    have hO7_10 : OB w10 B7 #[.string x.nm, .int .i64 x.pri, .int .i64 x.mode, .int .i64 x.kd, .int .i64 x.sy, .int .i64 x.n, .slice xa x.ks.len xc, .int .i64 x.lo, .int .i64 x.hi, .int .i64 (-1), .int .i64 x.add, .int .i64 x.ra] := by rw [← hw10]; exact hOu7_10.other (by omega) _ _
    have hO8_10 : OB w10 B8 #[.string x.nm, .int .i64 x.pri, .int .i64 x.mode, .int .i64 x.kd, .int .i64 x.sy, .int .i64 x.n, .slice xa x.ks.len xc, .int .i64 x.lo, .int .i64 x.hi, .int .i64 x.key, .int .i64 10, .int .i64 x.ra] := by rw [← hw10]; exact hOu8_10.other (by omega) _ _
    have hO9_10 : OB w10 B9 #[.string x.nm, .int .i64 x.pri, .int .i64 x.mode, .int .i64 x.kd, .int .i64 x.sy, .int .i64 x.n, .slice xa x.ks.len xc, .int .i64 x.lo, .int .i64 x.hi, .int .i64 x.key, .int .i64 x.add, .int .i64 5] := by rw [← hw10]; exact hOu9_10.other (by omega) _ _
    have bu10 := b09.trans (bN10.mono b09.size)
    have b010 : Below w.heap.size w w10 := by rw [← hw10]; exact bu10.setCell (by show _ ≤ B10; have := b09.size; omega) _
    have b410 : Below w4.heap.size w4 w10 := by rw [← hw10]; exact (b49.trans (bN10.mono b49.size)).setCell (by show _ ≤ B10; have := b49.size; omega) _
    obtain ⟨q0, q1, q2, q3, q4, q5, q6, q7, q8, q9, q10, q11⟩ := hA9.twelve
    simp only [Nat.zero_add] at q0 q1 q2 q3 q4 q5 q6 q7 q8 q9 q10 q11
    have c0 := hN10.at 2
    have f0 := hN10.free
    go_upto_region 19 with fail
    clear q0 q1 q2 q3 q4 q5 q6 q7 q8 q9 q10 q11 c0 f0 hu10 hw10
    have hsz : (x.nm ++ ({ data := #[97, 97, 97, 97, 97, 97] } : ByteArray)).size ≤ maxLen := by rw [ByteArray.size_append]; unfold maxLen; show x.nm.size + 6 ≤ _; omega
    have hnz : 1 ≤ x.nm.size := by
      have := hok
      unfold ruOkB nameB at this
      simp only [Bool.and_eq_true, decide_eq_true_eq] at this
      exact this.1.1.1.1
    have g0 : ruOkB { x with nm := x.nm ++ { data := #[97, 97, 97, 97, 97, 97] } } = false := ruOk_word (nameB_long (by show ¬ (1 ≤ (x.nm ++ _).size ∧ (x.nm ++ _).size ≤ 6); rw [ByteArray.size_append]; intro e; have := hnz; have e2 := e.2; change x.nm.size + 6 ≤ 6 at e2; omega))
    have g1 : ruOkB { x with hi := x.lo - 1 } = false := ruOk_no (by intro e; simp only at e; omega)
    have g2 : ruOkB { x with key := -1 } = false := ruOk_no (by intro e; simp only at e; omega)
    have g3 : ruOkB { x with add := 10 } = false := ruOk_no (by intro e; simp only at e; omega)
    have g4 : ruOkB { x with ra := 5 } = false := ruOk_no (by intro e; simp only at e; omega)
    have g5 : ruOkB { x with mode := 5 } = false := ruOk_no (by intro e; simp only at e; omega)
    have hin10 := hin4.below b410
    have hE10 := hE4.below b410
    have q0 := hO5_10.cell 0 rfl
    have q1 := hO5_10.cell 1 rfl
    have q2 := hO5_10.cell 2 rfl
    have q3 := hO5_10.cell 3 rfl
    have q4 := hO5_10.cell 4 rfl
    have q5 := hO5_10.cell 5 rfl
    have q6 := hO5_10.cell 6 rfl
    have q7 := hO5_10.cell 7 rfl
    have q8 := hO5_10.cell 8 rfl
    have q9 := hO5_10.cell 9 rfl
    have q10 := hO5_10.cell 10 rfl
    have q11 := hO5_10.cell 11 rfl
    go_wp2_with fail
    refine (implRuleOk_any { x with nm := x.nm ++ { data := #[97, 97, 97, 97, 97, 97] } } xa xc _ t v hE10 (in_nm hin10 (x.nm ++ { data := #[97, 97, 97, 97, 97, 97] }) hsz)).mono ?_
    rintro e w11 ⟨rfl, hb11⟩
    rw [g0]
    clear q0 q1 q2 q3 q4 q5 q6 q7 q8 q9 q10 q11
    have b011 := b010.trans (hb11.mono b010.size)
    have hA11 := hA10.below hb11
    have hin11 := hin10.below hb11
    have hE11 := hE10.below hb11
    have hO5_11 := hO5_10.below hb11
    have hO6_11 := hO6_10.below hb11
    have hO7_11 := hO7_10.below hb11
    have hO8_11 := hO8_10.below hb11
    have hO9_11 := hO9_10.below hb11
    have hO10_11 := hO10_10.below hb11
    have q0 := hO6_11.cell 0 rfl
    have q1 := hO6_11.cell 1 rfl
    have q2 := hO6_11.cell 2 rfl
    have q3 := hO6_11.cell 3 rfl
    have q4 := hO6_11.cell 4 rfl
    have q5 := hO6_11.cell 5 rfl
    have q6 := hO6_11.cell 6 rfl
    have q7 := hO6_11.cell 7 rfl
    have q8 := hO6_11.cell 8 rfl
    have q9 := hO6_11.cell 9 rfl
    have q10 := hO6_11.cell 10 rfl
    have q11 := hO6_11.cell 11 rfl
    go_wp2_with fail
    refine (implRuleOk_any { x with hi := x.lo - 1 } xa xc _ t v hE11 (in_hi hin11 (x.lo - 1))).mono ?_
    rintro e w12 ⟨rfl, hb12⟩
    rw [g1]
    clear q0 q1 q2 q3 q4 q5 q6 q7 q8 q9 q10 q11
    have b012 := b011.trans (hb12.mono b011.size)
    have hA12 := hA11.below hb12
    have hin12 := hin11.below hb12
    have hE12 := hE11.below hb12
    have hO5_12 := hO5_11.below hb12
    have hO6_12 := hO6_11.below hb12
    have hO7_12 := hO7_11.below hb12
    have hO8_12 := hO8_11.below hb12
    have hO9_12 := hO9_11.below hb12
    have hO10_12 := hO10_11.below hb12
    have q0 := hO7_12.cell 0 rfl
    have q1 := hO7_12.cell 1 rfl
    have q2 := hO7_12.cell 2 rfl
    have q3 := hO7_12.cell 3 rfl
    have q4 := hO7_12.cell 4 rfl
    have q5 := hO7_12.cell 5 rfl
    have q6 := hO7_12.cell 6 rfl
    have q7 := hO7_12.cell 7 rfl
    have q8 := hO7_12.cell 8 rfl
    have q9 := hO7_12.cell 9 rfl
    have q10 := hO7_12.cell 10 rfl
    have q11 := hO7_12.cell 11 rfl
    go_wp2_with fail
    refine (implRuleOk_any { x with key := -1 } xa xc _ t v hE12 (in_key hin12 (-1))).mono ?_
    rintro e w13 ⟨rfl, hb13⟩
    rw [g2]
    clear q0 q1 q2 q3 q4 q5 q6 q7 q8 q9 q10 q11
    have b013 := b012.trans (hb13.mono b012.size)
    have hA13 := hA12.below hb13
    have hin13 := hin12.below hb13
    have hE13 := hE12.below hb13
    have hO5_13 := hO5_12.below hb13
    have hO6_13 := hO6_12.below hb13
    have hO7_13 := hO7_12.below hb13
    have hO8_13 := hO8_12.below hb13
    have hO9_13 := hO9_12.below hb13
    have hO10_13 := hO10_12.below hb13
    have q0 := hO8_13.cell 0 rfl
    have q1 := hO8_13.cell 1 rfl
    have q2 := hO8_13.cell 2 rfl
    have q3 := hO8_13.cell 3 rfl
    have q4 := hO8_13.cell 4 rfl
    have q5 := hO8_13.cell 5 rfl
    have q6 := hO8_13.cell 6 rfl
    have q7 := hO8_13.cell 7 rfl
    have q8 := hO8_13.cell 8 rfl
    have q9 := hO8_13.cell 9 rfl
    have q10 := hO8_13.cell 10 rfl
    have q11 := hO8_13.cell 11 rfl
    go_wp2_with fail
    refine (implRuleOk_any { x with add := 10 } xa xc _ t v hE13 (in_add hin13 10)).mono ?_
    rintro e w14 ⟨rfl, hb14⟩
    rw [g3]
    clear q0 q1 q2 q3 q4 q5 q6 q7 q8 q9 q10 q11
    have b014 := b013.trans (hb14.mono b013.size)
    have hA14 := hA13.below hb14
    have hin14 := hin13.below hb14
    have hE14 := hE13.below hb14
    have hO5_14 := hO5_13.below hb14
    have hO6_14 := hO6_13.below hb14
    have hO7_14 := hO7_13.below hb14
    have hO8_14 := hO8_13.below hb14
    have hO9_14 := hO9_13.below hb14
    have hO10_14 := hO10_13.below hb14
    have q0 := hO9_14.cell 0 rfl
    have q1 := hO9_14.cell 1 rfl
    have q2 := hO9_14.cell 2 rfl
    have q3 := hO9_14.cell 3 rfl
    have q4 := hO9_14.cell 4 rfl
    have q5 := hO9_14.cell 5 rfl
    have q6 := hO9_14.cell 6 rfl
    have q7 := hO9_14.cell 7 rfl
    have q8 := hO9_14.cell 8 rfl
    have q9 := hO9_14.cell 9 rfl
    have q10 := hO9_14.cell 10 rfl
    have q11 := hO9_14.cell 11 rfl
    go_wp2_with fail
    refine (implRuleOk_any { x with ra := 5 } xa xc _ t v hE14 (in_ra hin14 5)).mono ?_
    rintro e w15 ⟨rfl, hb15⟩
    rw [g4]
    clear q0 q1 q2 q3 q4 q5 q6 q7 q8 q9 q10 q11
    have b015 := b014.trans (hb15.mono b014.size)
    have hA15 := hA14.below hb15
    have hin15 := hin14.below hb15
    have hE15 := hE14.below hb15
    have hO5_15 := hO5_14.below hb15
    have hO6_15 := hO6_14.below hb15
    have hO7_15 := hO7_14.below hb15
    have hO8_15 := hO8_14.below hb15
    have hO9_15 := hO9_14.below hb15
    have hO10_15 := hO10_14.below hb15
    have q0 := hO10_15.cell 0 rfl
    have q1 := hO10_15.cell 1 rfl
    have q2 := hO10_15.cell 2 rfl
    have q3 := hO10_15.cell 3 rfl
    have q4 := hO10_15.cell 4 rfl
    have q5 := hO10_15.cell 5 rfl
    have q6 := hO10_15.cell 6 rfl
    have q7 := hO10_15.cell 7 rfl
    have q8 := hO10_15.cell 8 rfl
    have q9 := hO10_15.cell 9 rfl
    have q10 := hO10_15.cell 10 rfl
    have q11 := hO10_15.cell 11 rfl
    go_wp2_with fail
    refine (implRuleOk_any { x with mode := 5 } xa xc _ t v hE15 (in_mode hin15 5)).mono ?_
    rintro e w16 ⟨rfl, hb16⟩
    rw [g5]
    clear q0 q1 q2 q3 q4 q5 q6 q7 q8 q9 q10 q11
    have b016 := b015.trans (hb16.mono b015.size)
    have hA16 := hA15.below hb16
    have hin16 := hin15.below hb16
    have hE16 := hE15.below hb16
    have hO5_16 := hO5_15.below hb16
    have hO6_16 := hO6_15.below hb16
    have hO7_16 := hO7_15.below hb16
    have hO8_16 := hO8_15.below hb16
    have hO9_16 := hO9_15.below hb16
    have hO10_16 := hO10_15.below hb16
    have q0 := hO5_16.cell 0 rfl
    have q1 := hO5_16.cell 1 rfl
    have q2 := hO5_16.cell 2 rfl
    have q3 := hO5_16.cell 3 rfl
    have q4 := hO5_16.cell 4 rfl
    have q5 := hO5_16.cell 5 rfl
    have q6 := hO5_16.cell 6 rfl
    have q7 := hO5_16.cell 7 rfl
    have q8 := hO5_16.cell 8 rfl
    have q9 := hO5_16.cell 9 rfl
    have q10 := hO5_16.cell 10 rfl
    have q11 := hO5_16.cell 11 rfl
    go_wp2_with fail
    refine (ruleLine_bad { x with nm := x.nm ++ { data := #[97, 97, 97, 97, 97, 97] } } xa xc _ t v hE16 (in_nm hin16 (x.nm ++ { data := #[97, 97, 97, 97, 97, 97] }) hsz) g0).mono ?_
    rintro e w17 ⟨rfl, hb17⟩
    clear q0 q1 q2 q3 q4 q5 q6 q7 q8 q9 q10 q11
    have b017 := b016.trans (hb17.mono b016.size)
    have hA17 := hA16.below hb17
    have hin17 := hin16.below hb17
    have hE17 := hE16.below hb17
    have hO5_17 := hO5_16.below hb17
    have hO6_17 := hO6_16.below hb17
    have hO7_17 := hO7_16.below hb17
    have hO8_17 := hO8_16.below hb17
    have hO9_17 := hO9_16.below hb17
    have hO10_17 := hO10_16.below hb17
    obtain ⟨q0, q1, q2, q3, q4, q5, q6, q7, q8, q9, q10, q11⟩ := hA17.twelve
    simp only [Nat.zero_add] at q0 q1 q2 q3 q4 q5 q6 q7 q8 q9 q10 q11
    obtain ⟨z17, hz17⟩ : ∃ u, w17.alloc (.cells #[.string x.nm, .int .i64 x.pri, .int .i64 x.mode, .int .i64 x.kd, .int .i64 x.sy, .int .i64 x.n, .slice xa x.ks.len xc, .int .i64 x.lo, .int .i64 x.hi, .int .i64 x.key, .int .i64 x.add, .int .i64 x.ra, .string x.nm, .int .i64 x.pri, .int .i64 x.mode, .int .i64 x.kd, .int .i64 x.sy, .int .i64 x.n, .slice xa x.ks.len xc, .int .i64 x.lo, .int .i64 x.hi, .int .i64 x.key, .int .i64 x.add, .int .i64 x.ra] 36) = u := ⟨_, rfl⟩
    have hZ := bx_new w17 #[.string x.nm, .int .i64 x.pri, .int .i64 x.mode, .int .i64 x.kd, .int .i64 x.sy, .int .i64 x.n, .slice xa x.ks.len xc, .int .i64 x.lo, .int .i64 x.hi, .int .i64 x.key, .int .i64 x.add, .int .i64 x.ra, .string x.nm, .int .i64 x.pri, .int .i64 x.mode, .int .i64 x.kd, .int .i64 x.sy, .int .i64 x.n, .slice xa x.ks.len xc, .int .i64 x.lo, .int .i64 x.hi, .int .i64 x.key, .int .i64 x.add, .int .i64 x.ra] 36
    have bz17 := xBelow_new w17 (.cells #[.string x.nm, .int .i64 x.pri, .int .i64 x.mode, .int .i64 x.kd, .int .i64 x.sy, .int .i64 x.n, .slice xa x.ks.len xc, .int .i64 x.lo, .int .i64 x.hi, .int .i64 x.key, .int .i64 x.add, .int .i64 x.ra, .string x.nm, .int .i64 x.pri, .int .i64 x.mode, .int .i64 x.kd, .int .i64 x.sy, .int .i64 x.n, .slice xa x.ks.len xc, .int .i64 x.lo, .int .i64 x.hi, .int .i64 x.key, .int .i64 x.add, .int .i64 x.ra] 36)
    rw [hz17] at hZ bz17
    have hR : Calls Tryd.prog 9 #[.slice (some ⟨w17.heap.size, 0, none⟩) 2 2] z17 fun e w' => e = .returned (.bool (rulesOkB [x, x])) ∧ Below z17.heap.size z17 w' := implRulesOk_any (some ⟨w17.heap.size, 0, none⟩) 2 [x, x] z17 t v (hE17.below bz17) (rus_two hZ (hin17.below bz17)) (Nat.le_refl _) (by omega)
    rw [ok_two x] at hR
    go_wp2_with fail
    refine hR.mono ?_
    rintro e w18 ⟨rfl, hb18⟩
    clear q0 q1 q2 q3 q4 q5 q6 q7 q8 q9 q10 q11 hR hZ hz17
    have hbz18 := bz17.trans (hb18.mono bz17.size)
    have b018 := b017.trans (hbz18.mono b017.size)
    have hA18 := hA17.below hbz18
    have hin18 := hin17.below hbz18
    have hE18 := hE17.below hbz18
    have hO5_18 := hO5_17.below hbz18
    have hO6_18 := hO6_17.below hbz18
    have hO7_18 := hO7_17.below hbz18
    have hO8_18 := hO8_17.below hbz18
    have hO9_18 := hO9_17.below hbz18
    have hO10_18 := hO10_17.below hbz18
    obtain ⟨q0, q1, q2, q3, q4, q5, q6, q7, q8, q9, q10, q11⟩ := hA18.twelve
    simp only [Nat.zero_add] at q0 q1 q2 q3 q4 q5 q6 q7 q8 q9 q10 q11
    obtain ⟨z18, hz18⟩ : ∃ u, w18.alloc (.cells #[.string x.nm, .int .i64 x.pri, .int .i64 x.mode, .int .i64 x.kd, .int .i64 x.sy, .int .i64 x.n, .slice xa x.ks.len xc, .int .i64 x.lo, .int .i64 x.hi, .int .i64 x.key, .int .i64 x.add, .int .i64 x.ra] 36) = u := ⟨_, rfl⟩
    have hZ := bx_new w18 #[.string x.nm, .int .i64 x.pri, .int .i64 x.mode, .int .i64 x.kd, .int .i64 x.sy, .int .i64 x.n, .slice xa x.ks.len xc, .int .i64 x.lo, .int .i64 x.hi, .int .i64 x.key, .int .i64 x.add, .int .i64 x.ra] 36
    have bz18 := xBelow_new w18 (.cells #[.string x.nm, .int .i64 x.pri, .int .i64 x.mode, .int .i64 x.kd, .int .i64 x.sy, .int .i64 x.n, .slice xa x.ks.len xc, .int .i64 x.lo, .int .i64 x.hi, .int .i64 x.key, .int .i64 x.add, .int .i64 x.ra] 36)
    rw [hz18] at hZ bz18
    have hR : Calls Tryd.prog 9 #[.slice (some ⟨w18.heap.size, 0, none⟩) 1 1] z18 fun e w' => e = .returned (.bool (rulesOkB [x])) ∧ Below z18.heap.size z18 w' := implRulesOk_any (some ⟨w18.heap.size, 0, none⟩) 1 [x] z18 t v (hE18.below bz18) (rus_one hZ (hin18.below bz18)) (Nat.le_refl _) (by omega)
    rw [ok_one hok] at hR
    go_wp2_with fail
    refine hR.mono ?_
    rintro e w19 ⟨rfl, hb19⟩
    clear q0 q1 q2 q3 q4 q5 q6 q7 q8 q9 q10 q11 hR hZ hz18
    have hbz19 := bz18.trans (hb19.mono bz18.size)
    have b019 := b018.trans (hbz19.mono b018.size)
    have hA19 := hA18.below hbz19
    have hin19 := hin18.below hbz19
    have hE19 := hE18.below hbz19
    have hO5_19 := hO5_18.below hbz19
    have hO6_19 := hO6_18.below hbz19
    have hO7_19 := hO7_18.below hbz19
    have hO8_19 := hO8_18.below hbz19
    have hO9_19 := hO9_18.below hbz19
    have hO10_19 := hO10_18.below hbz19
    go_wp2
    go_ret
    exact ⟨rfl, b019⟩

theorem globErr : Tryd.prog.globalNamed "loop.example/bellman/impl.errExNone" = some 0 := by kernel_rfl
theorem typeErr : (Tryd.prog.globals[0]?).map (·.type) = some 75 := by kernel_rfl
theorem cellsErr : Tryd.prog.cellsOf 142 = 1 := by kernel_rfl
theorem cellsStr : Tryd.prog.cellsOf 9 = 1 := by kernel_rfl
theorem starErr : "*" ++ "errors.errorString" = "*errors.errorString" := by decide
theorem rowErr (u : TypeId) (h : Tryd.prog.typeName? 3 u = some "*errors.errorString") : u = 126 :=
  typeName_ptr_named (nm := "errors.errorString") (by rw [starErr]; kernel_rfl) (by kernel_rfl) (by decide) u (by rw [starErr]; exact h)
/-- The sentinel is an interface value that holds something. -/
theorem sentinel {W : World} (h : laidMetH Tryd.prog Rows.fnRuleBentRow.laid W) : ∃ a, W.var? Tryd.prog "loop.example/bellman/impl.errExNone" = some #[.iface 126 (.pointer (some a))] := by
  have h1 := h.filter (fun x => x.1 == "loop.example/bellman/impl.errExNone")
  have e : Rows.fnRuleBentRow.laid.filter (fun x => x.1 == "loop.example/bellman/impl.errExNone") = [("loop.example/bellman/impl.errExNone", Rows.laid_loop_example_bellman_impl_errExNone)] := by kernel_rfl
  rw [e, Go.MakeChecks.laidMetH_plain _ _ _ (by kernel_rfl)] at h1
  obtain ⟨ps, ⟨g0, t0, cs0, f0, p0, q0, hg0, ht0, hv0, hd0, hq, e0⟩, hnd, hrows⟩ := h1
  obtain rfl := Option.some.inj (globErr.symm.trans hg0)
  obtain rfl := Option.some.inj (typeErr.symm.trans ht0)
  subst e0
  obtain ⟨l0⟩ := cs0
  have ok0 : ∀ u v, l0 = [.iface u v] → Value.okWide Tryd.prog W .any 0 u v := fun u v e => by
    subst e
    exact (hrows 0 0 (by simp [MemPlace.row])).2 u v (by simpa using World.var?_cell hg0 hv0 0)
  obtain ⟨a0, s0, rfl, _, _, _, _⟩ := errorString_of_trod Tryd.underlying75 rowErr Tryd.underlying126 Tryd.underlying142 rfl rfl Tryd.underlying9 cellsErr cellsStr hd0 ok0
  exact ⟨a0, hv0⟩
theorem errAt {W : World} {a : Addr} (h : W.var? Tryd.prog "loop.example/bellman/impl.errExNone" = some #[.iface 126 (.pointer (some a))]) : ErrAt W 126 (.pointer (some a)) := by
  have := World.var?_cell globErr h 0
  simpa [ErrAt] using this
theorem var_below {W W' : World} {cs : Array Value} (h : W.var? Tryd.prog "loop.example/bellman/impl.errExNone" = some cs) (hb : Below W.heap.size W W') : W'.var? Tryd.prog "loop.example/bellman/impl.errExNone" = some cs := by
  unfold World.var? at h ⊢
  simp only [globErr, Option.bind_some] at h ⊢
  have hlt : 0 < W.heap.size := by
    rcases Nat.lt_or_ge 0 W.heap.size with h' | h'
    · exact h'
    · simp [Array.getElem?_eq_none h'] at h
  rw [hb.block _ hlt]
  exact h
theorem vars_read {H : Type} (enc : TypeId × Value → H) {W : World} {a : Addr} (h0 : W.var? Tryd.prog "loop.example/bellman/impl.errExNone" = some #[.iface 126 (.pointer (some a))]) (sp : Nat → Bool) :
    DataW.TrodVars enc Tryd.prog W sp ["loop.example/bellman/impl.errExNone"] [tok enc (.iface 126 (.pointer (some a)))] [.cell 0 0] :=
  ⟨0, 75, #[.iface 126 (.pointer (some a))], 1, [], [], globErr, typeErr, h0, trod_held Tryd.underlying75 (show IsIface (.iface 126 (.pointer (some a))) from trivial) 0, rfl, rfl⟩

theorem gTabType : (Tryd.prog.globals[1]?).map (·.type) = some 118 := by kernel_rfl
theorem cellsTab : Tryd.prog.cellsOf 118 = 20 := by kernel_rfl
theorem cellsWord : Tryd.prog.cellsOf 107 = 1 := by kernel_rfl
theorem table {W : World} (h : laidMetH Tryd.prog Rows.fnRuleBentRow.laid W) : Tab W := by
  have h1 := h.filter (fun x => x.1 == "internal/strconv.uint64pow10")
  have e : Rows.fnRuleBentRow.laid.filter (fun x => x.1 == "internal/strconv.uint64pow10") = [("internal/strconv.uint64pow10", Lib.tabData .u64 Lib.pow10Tab)] := by kernel_rfl
  rw [e] at h1
  exact Lib.tabIs_of_head (rest := []) glob gTabType Tryd.underlying118 Tryd.underlying107 cellsWord cellsTab h1

theorem contract (H : Type) (enc : TypeId × Value → H) (W : World) (base : Nat) (args : Array Value) (ds gs : List (DataW H)) (before : List MemPlace)
    (hval : ∀ (j : Nat) t v, Tryd.f4.params[j]? = some t → args[j]? = some v → Value.okWide Tryd.prog W .any base t v)
    (hW : DataW.Whole enc Tryd.prog Tryd.f4.params.toList Rows.fnRuleBentSpec.vars false W args.toList ds gs before) (hL : laidMetH Tryd.prog Rows.fnRuleBentRow.laid W) :
    Calls Tryd.prog 4 args W fun e W' => ∃ v, e = .returned v ∧ Rows.fnRuleBentSpec.post enc Tryd.prog Tryd.f4 false true false false W args v W' := by
  have hW' := hW
  obtain ⟨p, q, hA0, hV0, rfl, hfz, hnd⟩ := hW
  have hA : DataW.TrodAll enc Tryd.prog W 0 (fun _ => true) true Tryd.f4.params.toList args.toList ds p := hA0
  have hV : DataW.TrodVars enc Tryd.prog W (fun _ => true) ["loop.example/bellman/impl.errExNone"] gs q := hV0
  rw [Tryd.params4] at hA hval
  obtain ⟨v0, vs0, d0, ds0, p0, q0, hargs, rfl, rfl, h0, r0⟩ := trodAll_cons hA
  obtain ⟨rfl, rfl, rfl⟩ := trodAll_nil r0
  obtain rfl : args = #[v0] := by cases args; simp_all
  obtain ⟨ea, hva⟩ := sentinel hL
  obtain ⟨rfl, rfl⟩ := hV.unique (vars_read enc hva _)
  have k0 := h0
  have lt0 : ∀ x ∈ p0, x.block < W.heap.size := by obtain ⟨m, hm⟩ := k0; exact DataW.trod_lt m _ _ _ hm
  obtain ⟨a0, cap0, bs0, rfl, e0⟩ := open_bytes (hval 0 22 v0 rfl rfl) h0
  clear hA0 hV0
  refine (walk a0 cap0 bs0 W 126 (.pointer (some ea)) e0 (errAt hva) (table hL)).mono fun e W' ⟨he, bel⟩ => ?_
  subst he
  exact ⟨_, rfl, _, _, _, [], _, [.cell 0 0], hW', trodAll_mk1 (shut_bool Tryd.underlying4 _), (trodAll_cons_mk (Below.trod laidOut (by kernel_rfl) (of_decide_eq_true (by kernel_rfl)) k0 bel lt0) trodAll_mk0), vars_read enc (var_below hva bel) _, bel.frame _, fun h => by cases h⟩

noncomputable def low : Nat := (World.holding Tryd.prog default ⟨#[], #[], []⟩).heap.size
theorem laid_met (os : Os) : laidMet Tryd.prog Rows.fnRuleBentRow.laid (({ World.holding Tryd.prog os ⟨#[.cells #[.string { data := #[110, 111, 116, 104, 105, 110, 103, 32, 116, 104, 97, 116, 32, 105, 115, 32, 108, 111, 111, 107, 101, 100, 32, 102, 111, 114] }] 142], #[], []⟩ with heap := (((((World.holding Tryd.prog os ⟨#[.cells #[.string { data := #[110, 111, 116, 104, 105, 110, 103, 32, 116, 104, 97, 116, 32, 105, 115, 32, 108, 111, 111, 107, 101, 100, 32, 102, 111, 114] }] 142], #[], []⟩).heap.modify 0 fun
      | .cells _ t frozen => .cells #[.iface 126 (.pointer (some ⟨low, 0, none⟩))] t frozen
      | o => o).modify 3 fun
      | .cells _ t frozen => .cells #[.int .u8 0, .int .u8 1, .int .u8 28, .int .u8 2, .int .u8 29, .int .u8 14, .int .u8 24, .int .u8 3, .int .u8 30, .int .u8 22, .int .u8 20, .int .u8 15, .int .u8 25, .int .u8 17, .int .u8 4, .int .u8 8, .int .u8 31, .int .u8 27, .int .u8 13, .int .u8 23, .int .u8 21, .int .u8 19, .int .u8 16, .int .u8 7, .int .u8 26, .int .u8 12, .int .u8 18, .int .u8 6, .int .u8 11, .int .u8 5, .int .u8 10, .int .u8 9] t frozen
      | o => o).modify 4 fun
      | .cells _ t frozen => .cells #[.int .u8 0, .int .u8 1, .int .u8 56, .int .u8 2, .int .u8 57, .int .u8 49, .int .u8 28, .int .u8 3, .int .u8 61, .int .u8 58, .int .u8 42, .int .u8 50, .int .u8 38, .int .u8 29, .int .u8 17, .int .u8 4, .int .u8 62, .int .u8 47, .int .u8 59, .int .u8 36, .int .u8 45, .int .u8 43, .int .u8 51, .int .u8 22, .int .u8 53, .int .u8 39, .int .u8 33, .int .u8 30, .int .u8 24, .int .u8 18, .int .u8 12, .int .u8 5, .int .u8 63, .int .u8 55, .int .u8 48, .int .u8 27, .int .u8 60, .int .u8 41, .int .u8 37, .int .u8 16, .int .u8 46, .int .u8 35, .int .u8 44, .int .u8 21, .int .u8 52, .int .u8 32, .int .u8 23, .int .u8 11, .int .u8 54, .int .u8 26, .int .u8 40, .int .u8 15, .int .u8 34, .int .u8 20, .int .u8 31, .int .u8 10, .int .u8 25, .int .u8 14, .int .u8 19, .int .u8 9, .int .u8 13, .int .u8 8, .int .u8 7, .int .u8 6] t frozen
      | o => o).modify 1 fun
      | .cells _ t frozen => .cells #[.int .u64 1, .int .u64 10, .int .u64 100, .int .u64 1000, .int .u64 10000, .int .u64 100000, .int .u64 1000000, .int .u64 10000000, .int .u64 100000000, .int .u64 1000000000, .int .u64 10000000000, .int .u64 100000000000, .int .u64 1000000000000, .int .u64 10000000000000, .int .u64 100000000000000, .int .u64 1000000000000000, .int .u64 10000000000000000, .int .u64 100000000000000000, .int .u64 1000000000000000000, .int .u64 10000000000000000000] t frozen
      | o => o) } : World).forCall (fun _ _ => 0) ⟨#[], #[.slice none 0 0], []⟩).memory :=
  laidMet_of_run' 8 (by kernel_rfl) (by kernel_rfl)
theorem reads (os : Os) {H : Type} (enc : TypeId × Value → H) : DataW.whole enc Tryd.prog (({ World.holding Tryd.prog os ⟨#[.cells #[.string { data := #[110, 111, 116, 104, 105, 110, 103, 32, 116, 104, 97, 116, 32, 105, 115, 32, 108, 111, 111, 107, 101, 100, 32, 102, 111, 114] }] 142], #[], []⟩ with heap := (((((World.holding Tryd.prog os ⟨#[.cells #[.string { data := #[110, 111, 116, 104, 105, 110, 103, 32, 116, 104, 97, 116, 32, 105, 115, 32, 108, 111, 111, 107, 101, 100, 32, 102, 111, 114] }] 142], #[], []⟩).heap.modify 0 fun
      | .cells _ t frozen => .cells #[.iface 126 (.pointer (some ⟨low, 0, none⟩))] t frozen
      | o => o).modify 3 fun
      | .cells _ t frozen => .cells #[.int .u8 0, .int .u8 1, .int .u8 28, .int .u8 2, .int .u8 29, .int .u8 14, .int .u8 24, .int .u8 3, .int .u8 30, .int .u8 22, .int .u8 20, .int .u8 15, .int .u8 25, .int .u8 17, .int .u8 4, .int .u8 8, .int .u8 31, .int .u8 27, .int .u8 13, .int .u8 23, .int .u8 21, .int .u8 19, .int .u8 16, .int .u8 7, .int .u8 26, .int .u8 12, .int .u8 18, .int .u8 6, .int .u8 11, .int .u8 5, .int .u8 10, .int .u8 9] t frozen
      | o => o).modify 4 fun
      | .cells _ t frozen => .cells #[.int .u8 0, .int .u8 1, .int .u8 56, .int .u8 2, .int .u8 57, .int .u8 49, .int .u8 28, .int .u8 3, .int .u8 61, .int .u8 58, .int .u8 42, .int .u8 50, .int .u8 38, .int .u8 29, .int .u8 17, .int .u8 4, .int .u8 62, .int .u8 47, .int .u8 59, .int .u8 36, .int .u8 45, .int .u8 43, .int .u8 51, .int .u8 22, .int .u8 53, .int .u8 39, .int .u8 33, .int .u8 30, .int .u8 24, .int .u8 18, .int .u8 12, .int .u8 5, .int .u8 63, .int .u8 55, .int .u8 48, .int .u8 27, .int .u8 60, .int .u8 41, .int .u8 37, .int .u8 16, .int .u8 46, .int .u8 35, .int .u8 44, .int .u8 21, .int .u8 52, .int .u8 32, .int .u8 23, .int .u8 11, .int .u8 54, .int .u8 26, .int .u8 40, .int .u8 15, .int .u8 34, .int .u8 20, .int .u8 31, .int .u8 10, .int .u8 25, .int .u8 14, .int .u8 19, .int .u8 9, .int .u8 13, .int .u8 8, .int .u8 7, .int .u8 6] t frozen
      | o => o).modify 1 fun
      | .cells _ t frozen => .cells #[.int .u64 1, .int .u64 10, .int .u64 100, .int .u64 1000, .int .u64 10000, .int .u64 100000, .int .u64 1000000, .int .u64 10000000, .int .u64 100000000, .int .u64 1000000000, .int .u64 10000000000, .int .u64 100000000000, .int .u64 1000000000000, .int .u64 10000000000000, .int .u64 100000000000000, .int .u64 1000000000000000, .int .u64 10000000000000000, .int .u64 100000000000000000, .int .u64 1000000000000000000, .int .u64 10000000000000000000] t frozen
      | o => o) } : World).forCall (fun _ _ => 0) ⟨#[], #[.slice none 0 0], []⟩).memory Tryd.f4.params.toList Rows.fnRuleBentSpec.vars false (#[.slice none 0 0] : Array Value).toList 8 = some ([.nil], [tok enc (.iface 126 (.pointer (some ⟨low, 0, none⟩)))], [.cell 0 0]) := by kernel_rfl

set_option maxRecDepth 100000 in
theorem lifted (os : Os) (started : os.Started) (H : Type) (enc : TypeId × Value → H) (F : Stop.Interp) :
    ReturnsInHanded {} Tryd.checked os 4 .any ((OpenSpec.ofChange Rows.fnRuleBentSpec).preRow enc Tryd.prog Tryd.f4 Rows.fnRuleBentRow.domain false Rows.fnRuleBentRow.laid) (((OpenSpec.ofChange Rows.fnRuleBentSpec).at F).post enc Tryd.prog Tryd.f4 false true false false) := by
  refine returnsInHanded_of_row (C := Tryd.checked) (s := OpenSpec.ofChange Rows.fnRuleBentSpec) own started (by kernel_rfl) Tryd.func4
    (witness_row_at (enc := enc) (C := Tryd.checked) false ({ World.holding Tryd.prog os ⟨#[.cells #[.string { data := #[110, 111, 116, 104, 105, 110, 103, 32, 116, 104, 97, 116, 32, 105, 115, 32, 108, 111, 111, 107, 101, 100, 32, 102, 111, 114] }] 142], #[], []⟩ with heap := (((((World.holding Tryd.prog os ⟨#[.cells #[.string { data := #[110, 111, 116, 104, 105, 110, 103, 32, 116, 104, 97, 116, 32, 105, 115, 32, 108, 111, 111, 107, 101, 100, 32, 102, 111, 114] }] 142], #[], []⟩).heap.modify 0 fun
      | .cells _ t frozen => .cells #[.iface 126 (.pointer (some ⟨low, 0, none⟩))] t frozen
      | o => o).modify 3 fun
      | .cells _ t frozen => .cells #[.int .u8 0, .int .u8 1, .int .u8 28, .int .u8 2, .int .u8 29, .int .u8 14, .int .u8 24, .int .u8 3, .int .u8 30, .int .u8 22, .int .u8 20, .int .u8 15, .int .u8 25, .int .u8 17, .int .u8 4, .int .u8 8, .int .u8 31, .int .u8 27, .int .u8 13, .int .u8 23, .int .u8 21, .int .u8 19, .int .u8 16, .int .u8 7, .int .u8 26, .int .u8 12, .int .u8 18, .int .u8 6, .int .u8 11, .int .u8 5, .int .u8 10, .int .u8 9] t frozen
      | o => o).modify 4 fun
      | .cells _ t frozen => .cells #[.int .u8 0, .int .u8 1, .int .u8 56, .int .u8 2, .int .u8 57, .int .u8 49, .int .u8 28, .int .u8 3, .int .u8 61, .int .u8 58, .int .u8 42, .int .u8 50, .int .u8 38, .int .u8 29, .int .u8 17, .int .u8 4, .int .u8 62, .int .u8 47, .int .u8 59, .int .u8 36, .int .u8 45, .int .u8 43, .int .u8 51, .int .u8 22, .int .u8 53, .int .u8 39, .int .u8 33, .int .u8 30, .int .u8 24, .int .u8 18, .int .u8 12, .int .u8 5, .int .u8 63, .int .u8 55, .int .u8 48, .int .u8 27, .int .u8 60, .int .u8 41, .int .u8 37, .int .u8 16, .int .u8 46, .int .u8 35, .int .u8 44, .int .u8 21, .int .u8 52, .int .u8 32, .int .u8 23, .int .u8 11, .int .u8 54, .int .u8 26, .int .u8 40, .int .u8 15, .int .u8 34, .int .u8 20, .int .u8 31, .int .u8 10, .int .u8 25, .int .u8 14, .int .u8 19, .int .u8 9, .int .u8 13, .int .u8 8, .int .u8 7, .int .u8 6] t frozen
      | o => o).modify 1 fun
      | .cells _ t frozen => .cells #[.int .u64 1, .int .u64 10, .int .u64 100, .int .u64 1000, .int .u64 10000, .int .u64 100000, .int .u64 1000000, .int .u64 10000000, .int .u64 100000000, .int .u64 1000000000, .int .u64 10000000000, .int .u64 100000000000, .int .u64 1000000000000, .int .u64 10000000000000, .int .u64 100000000000000, .int .u64 1000000000000000, .int .u64 10000000000000000, .int .u64 100000000000000000, .int .u64 1000000000000000000, .int .u64 10000000000000000000] t frozen
      | o => o) } : World) #[.slice none 0 0] rfl (by kernel_rfl) (by kernel_rfl) (by kernel_rfl)
      (OpenSpec.preRow_of_cond 8 (reads os enc) (by kernel_rfl) (fun k hk => by cases hk) (by kernel_rfl) (laid_met os))) ?_
  intro W base args ds gs before hval hW _ _ _ hL hSh _
  exact contract H enc W base args ds gs before hval hW hL

theorem said : Rows.FnRuleBentSaid :=
  OpenClaim.holds_of_cond 4 Tryd.f4 rfl rfl rfl rfl rfl rfl rfl ⟨rfl, rfl, rfl, rfl, rfl⟩ rfl rfl rfl rfl rfl (by kernel_rfl) Tryd.func4 (by kernel_rfl)
    (of_decide_eq_true (by kernel_rfl)) (by unfold Func.isWrapper; first | (rw [if_pos (by decide +kernel)]; kernel_rfl) | (rw [if_neg (by decide +kernel)]; exact ⟨rfl, rfl⟩))
    (fun os started H enc _ F => by rw [OpenClaim.pre_eq_preRow]; exact lifted os started H enc F)

theorem plain (f : FuncId) (fn : Func) (hf : Tryd.pinned.checked.prog.funcNamed "loop.example/bellman/laws.FnRuleBent" = some f) (hfn : Tryd.pinned.checked.prog.funcs[f]? = some fn) :
    false = Tryd.pinned.checked.prog.looks [] ∧ ∀ (j : Nat) t, fn.params[j]? = some t → Tryd.pinned.checked.prog.wantsStandIn t = false := by
  obtain rfl : f = 4 := Option.some.inj ((show Tryd.prog.funcNamed "loop.example/bellman/laws.FnRuleBent" = some 4 by kernel_rfl).symm.trans hf) |>.symm
  obtain rfl : fn = Tryd.f4 := (Option.some.inj (Tryd.func4.symm.trans hfn)).symm
  refine ⟨by kernel_rfl, fun j t ht => ?_⟩
  rw [Tryd.params4] at ht
  have hm := Array.mem_of_getElem? ht
  simp only [List.mem_toArray, List.mem_cons, List.not_mem_nil, or_false] at hm
  rcases hm with rfl
  · exact (show Tryd.prog.wantsStandIn 22 = false by kernel_rfl)

theorem card : Rows.FnRuleBentCardSaid :=
  Claim7.holds_tied_plain_at .later [] _ _ _ _ said (fun _ h => by cases h) (by kernel_rfl) (fun _ h => by cases h) fnRuleBent_row_tie rfl ⟨rfl, rfl⟩ (by kernel_rfl) rfl plain (by kernel_rfl)
end Go.Proofs.YtohijenlcfkliaaDoor.fnRuleBent
namespace Go.Proofs.YtohijenlcfkliaaDoor
theorem fnRuleBent_holds : Rows.FnRuleBentCardSaid := fnRuleBent.card
#print axioms fnRuleBent_holds
end Go.Proofs.YtohijenlcfkliaaDoor

