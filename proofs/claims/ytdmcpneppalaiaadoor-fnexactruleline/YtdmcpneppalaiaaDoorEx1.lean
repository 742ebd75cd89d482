/- How many parts there are: the laws' own count. -/
import Derived.Test.YtdmcpneppalaiaaDoorEx
namespace Go.Proofs.YtdmcpneppalaiaaDoor
open Go.ChangeShapes Go.WideShapes Go.ChangeAt Go.RowKit
set_option linter.unusedVariables false
set_option maxRecDepth 4000

theorem Fo.inner_at {F : Fo} {k : Nat} {kd sy n : Int} {kids : Fo} (h : F.drop k = .cons kd sy n kids (F.drop (k + 1))) : (F.drop k).inner = kids.size + (F.drop (k + 1)).inner := by
  rw [h]; rfl

/-- What is left of a number when a list was counted: below 0 is -1. -/
def szLeft (left : Int) (s : Nat) : Int := if left - s < 0 then -1 else left - s

set_option maxHeartbeats 400000 in
theorem szEx_of (kd sy n : Int) (a : Option Addr) (cap : Nat) (F : Fo) (left : Int) (w : World)
    (hS : ∀ w', Below w.heap.size w w' → Calls Tryd.prog 22 #[.slice a F.len cap, .int .i64 left] w' fun e w'' => e = .returned (.int .i64 (szLeft left F.size)) ∧ Below w'.heap.size w' w'') :
    Calls Tryd.prog 9 #[.agg #[.int .i64 kd, .int .i64 sy, .int .i64 n, .slice a F.len cap], .int .i64 left] w fun e w' => e = .returned (.int .i64 (szLeft left F.size)) ∧ Below w.heap.size w w' := by
  have hb0 : Below w.heap.size w (w.alloc (.cells #[.int .i64 kd, .int .i64 sy, .int .i64 n, .slice a F.len cap] 24)) := (Below.refl _ _).alloc (Nat.le_refl _) _
  by_cases h : left - F.size < 0
  · have hz : szLeft left F.size = -1 := if_pos h
    rw [hz] at hS ⊢
    go_enter Tryd.func9, Tryd.ntmps9
    go_wp2_with fail
    refine (hS _ hb0).mono ?_
    rintro e w1 ⟨rfl, hb1⟩
    go_wp2
    go_ret
    exact ⟨rfl, hb0.trans (hb1.mono hb0.size)⟩
  · have hz : szLeft left F.size = left - F.size := if_neg h
    rw [hz] at hS ⊢
    have hge : ¬ (left - (F.size : Int) < 0) := h
    go_enter Tryd.func9, Tryd.ntmps9
    go_wp2_with fail
    refine (hS _ hb0).mono ?_
    rintro e w1 ⟨rfl, hb1⟩
    go_wp2
    go_ret
    exact ⟨rfl, hb0.trans (hb1.mono hb0.size)⟩

set_option maxHeartbeats 400000 in
theorem szExS_any : ∀ (N : Nat) (F : Fo), F.size ≤ N → ∀ (a : Option Addr) (cap : Nat) (left : Int) (w : World), Slc w a F → 0 ≤ left → left ≤ 1048576 →
    Calls Tryd.prog 22 #[.slice a F.len cap, .int .i64 left] w fun e w' => e = .returned (.int .i64 (szLeft left F.size)) ∧ Below w.heap.size w w' := by
  intro N
  induction N using Nat.strongRecOn with
  | _ N ih =>
  intro F hN a cap left w h h0 h1
  have hn := h.len
  unfold maxLen at hn
  have hse := Fo.size_eq F
  by_cases hl : left - F.len < 0
  · have hz : szLeft left F.size = -1 := if_pos (by omega)
    rw [hz]
    go_enter Tryd.func22, Tryd.ntmps22
    go_wp2
    go_ret
    exact ⟨rfl, Below.refl _ _⟩
  · obtain ⟨G, hG⟩ : ∃ G, szLeft left F.size = G := ⟨_, rfl⟩
    rw [hG]
    go_enter Tryd.func22, Tryd.ntmps22
    go_wp2
    go_loopw [1, 5] (fun c i wr => ∃ k : Nat, ∃ cur : Int, k ≤ F.len ∧ i = .int .i64 k ∧ c = .int .i64 cur ∧ 0 ≤ cur ∧ cur ≤ 1048576 ∧ Hid (cur - ((F.drop k).inner : Int) = left - F.size) ∧ Below w.heap.size w wr) (fun _ i _ => F.len - (intOf i).toNat)
    case atStart => exact ⟨0, _, Nat.zero_le _, rfl, rfl, by omega, by omega, by show _ = _; rw [Fo.drop_zero]; omega, Below.refl _ _⟩
    case round =>
      obtain ⟨k, cur, hk, rfl, rfl, hc0, hc1, hr, hb⟩ := hrel
      by_cases hlt : k < F.len
      · obtain ⟨b, off, kd, sy, n, kids, a', cap', rfl, hbl, hd, hsz, c0, c1, c2, c3, hkids⟩ := (h.below hb).at hlt
        have hin : Hid ((F.drop k).inner = _) := Fo.inner_at hd
        clear hd
        have hstep := fun w' hb' => ih kids.size (by omega) kids (Nat.le_refl _) a' cap' cur w' (hkids.below hb') hc0 hc1
        by_cases hneg : cur - kids.size < 0
        · have hz : szLeft cur kids.size = -1 := if_pos hneg
          have hz' : Hid (szLeft left F.size = -1) := by
            show _ = _
            have := hr.out; have := hin.out
            exact if_pos (by omega)
          go_wp2_with fail
          refine (szEx_of kd sy n a' cap' kids cur _ hstep).mono ?_
          rintro e w1 ⟨rfl, hb1⟩
          rw [hz]
          go_wp2
          go_ret
          exact ⟨by rw [← hG, hz'.out]; rfl, hb.trans (hb1.mono hb.size)⟩
        · have hz : szLeft cur kids.size = cur - kids.size := if_neg hneg
          have hge : ¬ (cur - (kids.size : Int) < 0) := hneg
          go_wp2_with fail
          refine (szEx_of kd sy n a' cap' kids cur _ hstep).mono ?_
          rintro e w1 ⟨rfl, hb1⟩
          rw [hz]
          go_wp2
          refine ⟨⟨k + 1, _, by omega, by go_num, rfl, by omega, by omega, ?_, hb.trans (hb1.mono hb.size)⟩, by simp [intOf]; omega⟩
          show _ = _
          have := hr.out; have := hin.out
          omega
      · have hz' : Hid (szLeft left F.size = cur) := by
          show _ = _
          have := hr.out
          rw [Fo.drop_end k F (by omega)] at this
          simp only [Fo.inner] at this
          unfold szLeft
          rw [if_neg (by omega)]; omega
        go_wp2
        go_ret
        exact ⟨by rw [← hG, hz'.out]; rfl, hb⟩

theorem szEx_any (kd sy n : Int) (a : Option Addr) (cap : Nat) (F : Fo) (left : Int) (w : World) (h : Slc w a F) (h0 : 0 ≤ left) (h1 : left ≤ 1048576) :
    Calls Tryd.prog 9 #[.agg #[.int .i64 kd, .int .i64 sy, .int .i64 n, .slice a F.len cap], .int .i64 left] w fun e w' => e = .returned (.int .i64 (szLeft left F.size)) ∧ Below w.heap.size w w' :=
  szEx_of kd sy n a cap F left w fun w' hb => szExS_any F.size F (Nat.le_refl _) a cap left w' (h.below hb) h0 h1
end Go.Proofs.YtdmcpneppalaiaaDoor
