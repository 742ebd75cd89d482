/- The laws' comparison of what is looked for. -/
import Derived.Test.YthlddehmebgfoaaEx3
namespace Go.Proofs.Ythlddehmebgfoaa
open Go.ChangeShapes Go.WideShapes Go.ChangeAt Go.RowKit
set_option linter.unusedVariables false
set_option maxRecDepth 4000

def eqF : Fo → Fo → Bool
  | .nil, .nil => true
  | .cons kd sy n k r, .cons kd' sy' n' k' r' => decide (kd = kd' ∧ sy = sy' ∧ n = n') && eqF k k' && eqF r r'
  | _, _ => false
theorem eqF_iff : ∀ a b : Fo, eqF a b = true ↔ a = b
  | .nil, .nil => by simp [eqF]
  | .nil, .cons .. => by simp [eqF]
  | .cons .., .nil => by simp [eqF]
  | .cons kd sy n k r, .cons kd' sy' n' k' r' => by simp [eqF, eqF_iff k k', eqF_iff r r', and_assoc]
theorem eqF_self (a : Fo) : eqF a a = true := (eqF_iff a a).2 rfl
theorem eqF_len {a b : Fo} (h : a.len ≠ b.len) : eqF a b = false := by
  rw [Bool.eq_false_iff]; intro e; exact h (by rw [(eqF_iff a b).1 e])
/-- One: its numbers and its parts. -/
def eqX (kd sy n : Int) (k : Fo) (kd' sy' n' : Int) (k' : Fo) : Bool := decide (kd = kd' ∧ sy = sy' ∧ n = n') && eqF k k'
theorem eqF_step {F F' : Fo} {k : Nat} {kd sy n kd' sy' n' : Int} {kids kids' : Fo} (h : F.drop k = .cons kd sy n kids (F.drop (k + 1))) (h' : F'.drop k = .cons kd' sy' n' kids' (F'.drop (k + 1))) :
    eqF (F.drop k) (F'.drop k) = (eqX kd sy n kids kd' sy' n' kids' && eqF (F.drop (k + 1)) (F'.drop (k + 1))) := by
  rw [h, h']; rfl
theorem eqF_end {F F' : Fo} {k : Nat} (h : F.len ≤ k) (h' : F'.len ≤ k) : eqF (F.drop k) (F'.drop k) = true := by
  rw [Fo.drop_end k F h, Fo.drop_end k F' h']; rfl

set_option maxHeartbeats 400000 in
theorem eqEx_of (kd sy n : Int) (a : Option Addr) (cap : Nat) (F : Fo) (kd' sy' n' : Int) (a' : Option Addr) (cap' : Nat) (F' : Fo) (w : World)
    (hS : ∀ w', Below w.heap.size w w' → Calls Try.prog 84 #[.slice a F.len cap, .slice a' F'.len cap'] w' fun e w'' => e = .returned (.bool (eqF F F')) ∧ Below w'.heap.size w' w'') :
    Calls Try.prog 73 #[.agg #[.int .i64 kd, .int .i64 sy, .int .i64 n, .slice a F.len cap], .agg #[.int .i64 kd', .int .i64 sy', .int .i64 n', .slice a' F'.len cap']] w
      fun e w' => e = .returned (.bool (eqX kd sy n F kd' sy' n' F')) ∧ Below w.heap.size w w' := by
  have hb0 : Below w.heap.size w ((w.alloc (.cells #[.int .i64 kd, .int .i64 sy, .int .i64 n, .slice a F.len cap] 82)).alloc (.cells #[.int .i64 kd', .int .i64 sy', .int .i64 n', .slice a' F'.len cap'] 82)) :=
    ((Below.refl _ _).alloc (Nat.le_refl _) _).alloc (by simp) _
  by_cases h1 : kd = kd'
  · by_cases h2 : sy = sy'
    · by_cases h3 : n = n'
      · subst h1 h2 h3
        have hx : Hid (eqX kd sy n F kd sy n F' = eqF F F') := by show _ = _; simp [eqX]
        cases hq : eqF F F'
        · rw [hq] at hS
          go_enter Try.func73, Try.ntmps73
          go_wp2_with fail
          refine (hS _ hb0).mono ?_
          rintro e w1 ⟨rfl, hb1⟩
          go_wp2
          go_ret
          exact ⟨ret_bool (by rw [hx.out, hq]), hb0.trans (hb1.mono hb0.size)⟩
        · rw [hq] at hS
          go_enter Try.func73, Try.ntmps73
          go_wp2_with fail
          refine (hS _ hb0).mono ?_
          rintro e w1 ⟨rfl, hb1⟩
          go_wp2
          go_ret
          exact ⟨ret_bool (by rw [hx.out, hq]), hb0.trans (hb1.mono hb0.size)⟩
      · have hx : eqX kd sy n F kd' sy' n' F' = false := by simp [eqX, h3]
        rw [hx]
        subst h1 h2
        have hne : (n != n') = true := by simpa using h3
        clear hx h3
        go_enter Try.func73, Try.ntmps73
        go_wp2_with fail
        go_ret
        exact ⟨rfl, hb0⟩
    · have hx : eqX kd sy n F kd' sy' n' F' = false := by simp [eqX, h2]
      rw [hx]
      subst h1
      have hne : (sy != sy') = true := by simpa using h2
      clear hx h2
      go_enter Try.func73, Try.ntmps73
      go_wp2_with fail
      go_ret
      exact ⟨rfl, hb0⟩
  · have hx : eqX kd sy n F kd' sy' n' F' = false := by simp [eqX, h1]
    rw [hx]
    have hne : (kd != kd') = true := by simpa using h1
    clear hx h1
    go_enter Try.func73, Try.ntmps73
    go_wp2_with fail
    go_ret
    exact ⟨rfl, hb0⟩

set_option maxHeartbeats 400000 in
theorem eqExS_any : ∀ (N : Nat) (F : Fo), F.size ≤ N → ∀ (F' : Fo) (a a' : Option Addr) (cap cap' : Nat) (w : World), Slc w a F → Slc w a' F' →
    Calls Try.prog 84 #[.slice a F.len cap, .slice a' F'.len cap'] w fun e w' => e = .returned (.bool (eqF F F')) ∧ Below w.heap.size w w' := by
  intro N
  induction N using Nat.strongRecOn with
  | _ N ih =>
  intro F hN F' a a' cap cap' w h h'
  have hn := h.len
  have hn' := h'.len
  unfold maxLen at hn hn'
  by_cases hne : F.len = F'.len
  · have hf : Hid (eqF F F' = eqF (F.drop 0) (F'.drop 0)) := by show _ = _; rw [Fo.drop_zero, Fo.drop_zero]
    have hnb : ((F.len : Int) != (F'.len : Int)) = false := by simp [hne]
    have Hne : Hid (F.len = F'.len) := hne
    have hle : F.len ≤ F'.len := by omega
    clear hne
    go_enter Try.func84, Try.ntmps84
    go_wp2
    go_loopw [5] (fun i wr => ∃ k : Nat, k ≤ F.len ∧ i = .int .i64 k ∧ Hid (eqF F F' = eqF (F.drop k) (F'.drop k)) ∧ Below w.heap.size w wr) (fun i _ => F.len - (intOf i).toNat)
    case atStart => exact ⟨0, Nat.zero_le _, rfl, hf, Below.refl _ _⟩
    case round =>
      obtain ⟨k, hk, rfl, hr, hb⟩ := hrel
      by_cases hlt : k < F.len
      · obtain ⟨b, off, kd, sy, n, kids, p, cp, rfl, hbl, hd, hsz, c0, c1, c2, c3, hkids⟩ := (h.below hb).at hlt
        obtain ⟨b', off', kd', sy', n', kids', p', cp', rfl, hbl', hd', hsz', d0, d1, d2, d3, hkids'⟩ := (h'.below hb).at (k := k) (by omega)
        have hst : Hid (eqF (F.drop k) (F'.drop k) = _) := eqF_step hd hd'
        have hlt' : k < F'.len := by omega
        clear hd hd'
        have hcall := fun (u : After wr) => calls_after (u := u) (eqEx_of kd sy n p cp kids kd' sy' n' p' cp' kids' u.v fun w' hb' =>
          ih kids.size (by omega) kids (Nat.le_refl _) kids' p p' cp cp' w' ((hkids.below u.h).below hb') ((hkids'.below u.h).below hb'))
        have a0 := fun u : After wr => u.cell c0 hbl
        have a1 := fun u : After wr => u.cell c1 hbl
        have a2 := fun u : After wr => u.cell c2 hbl
        have a3 := fun u : After wr => u.cell c3 hbl
        have g0 := fun u : After wr => u.cell d0 hbl'
        have g1 := fun u : After wr => u.cell d1 hbl'
        have g2 := fun u : After wr => u.cell d2 hbl'
        have g3 := fun u : After wr => u.cell d3 hbl'
        clear ih
        cases hev : eqX kd sy n kids kd' sy' n' kids'
        · rw [hev] at hcall
          go_wp2
          have hany := after_any
          refine wp_region_after (by kernel_rfl) (by kernel_rfl) ?_
          repeat (go_big_quiet_step ((go_at_call 73; refine hcall _)))
          refine wpQuiet_nil ?_
          intro w1 hu
          have hbe : Below w.heap.size w w1 := hb.trans ((after_of hu).mono hb.size)
          clear hu
          go_wp2
          go_ret
          exact ⟨ret_bool (by rw [hr.out, hst.out, hev]; rfl), hbe⟩
        · rw [hev] at hcall
          go_wp2
          have hany := after_any
          refine wp_region_after (by kernel_rfl) (by kernel_rfl) ?_
          repeat (go_big_quiet_step ((go_at_call 73; refine hcall _)))
          refine wpQuiet_nil ?_
          intro w1 hu
          have hbe : Below w.heap.size w w1 := hb.trans ((after_of hu).mono hb.size)
          clear hu
          go_wp2
          exact ⟨⟨k + 1, by omega, by go_num, by show _ = _; rw [hr.out, hst.out, hev]; rfl, hbe⟩, by simp [intOf]; omega⟩
      · go_wp2
        go_ret
        exact ⟨ret_bool (by rw [hr.out, eqF_end (by omega) (by have := Hne.out; omega)]), hb⟩
  · rw [eqF_len hne]
    have hnb : ((F.len : Int) != (F'.len : Int)) = true := by simp; omega
    clear ih
    go_enter Try.func84, Try.ntmps84
    go_wp2
    go_ret
    exact ⟨rfl, Below.refl _ _⟩

theorem eqEx_any (kd sy n : Int) (a : Option Addr) (cap : Nat) (F : Fo) (kd' sy' n' : Int) (a' : Option Addr) (cap' : Nat) (F' : Fo) (w : World) (h : Slc w a F) (h' : Slc w a' F') :
    Calls Try.prog 73 #[.agg #[.int .i64 kd, .int .i64 sy, .int .i64 n, .slice a F.len cap], .agg #[.int .i64 kd', .int .i64 sy', .int .i64 n', .slice a' F'.len cap']] w
      fun e w' => e = .returned (.bool (eqX kd sy n F kd' sy' n' F')) ∧ Below w.heap.size w w' :=
  eqEx_of kd sy n a cap F kd' sy' n' a' cap' F' w fun w' hb => eqExS_any F.size F (Nat.le_refl _) F' a a' cap cap' w' (h.below hb) (h'.below hb)
theorem eqX_self (kd sy n : Int) (F : Fo) : eqX kd sy n F kd sy n F = true := by simp [eqX, eqF_self]
end Go.Proofs.Ythlddehmebgfoaa
