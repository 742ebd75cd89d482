/- The marks that the laws look for in what is looked for. -/
import Derived.Test.YtpkinlcinccccaaDoorExRdB
namespace Go.Proofs.YtpkinlcinccccaaDoor
open Go.ChangeShapes Go.WideShapes Go.ChangeAt Go.RowKit
set_option linter.unusedVariables false
set_option maxRecDepth 4000
set_option maxHeartbeats 1000000 in
theorem heldExS_any : ∀ (N : Nat) (F : Fo), F.size ≤ N → ∀ (a : Option Addr) (cap : Nat) (k : Int) (w : World), Slc w a (markF k F) → 0 ≤ k → k + 3 * F.size ≤ 1000000000 →
    Calls Tryd.prog 26 #[.slice a F.len cap, .int .i64 k] w fun e w' => e = .returned (.int .i64 (k + 3 * F.size)) ∧ w' = w := by
  intro N
  induction N using Nat.strongRecOn with
  | _ N ih =>
  intro F hN a cap k w hS hk0 hk1
  have hlen := hS.len
  rw [markF_len] at hlen
  unfold maxLen at hlen
  go_enter Tryd.func26, Tryd.ntmps26
  go_wp2_with fail
  go_loop [1, 5] (fun c i => ∃ j : Nat, j ≤ F.len ∧ i = .int .i64 j ∧ c = .int .i64 (markAt k F j)) (fun _ i => F.len - (intOf i).toNat)
  case atStart => exact ⟨0, Nat.zero_le _, rfl, by simp [markAt, Fo.drop_zero]⟩
  case round =>
    obtain ⟨j, hj, rfl, rfl⟩ := hrel
    by_cases hlt : j < F.len
    · obtain ⟨b, off, kd, sy, n, kids, a', cap', rfl, hbl, hd, hsz, c0, c1, c2, c3, hkids⟩ := hS.at (k := j) (by rw [markF_len]; exact hlt)
      obtain ⟨kd0, sy0, n0, kids0, hd0, hsz0⟩ := Fo.drop_at j F hlt
      rw [markF_drop, hd0] at hd
      simp only [markF, Fo.cons.injEq] at hd
      obtain ⟨rfl, rfl, rfl, rfl, _⟩ := hd
      have hds : (F.drop j).size = kids0.size + (F.drop (j + 1)).size + 1 := by rw [hd0]; rfl
      have hdle : (F.drop j).size ≤ F.size := Fo.drop_size j F
      have hm0 : 0 ≤ markAt k F j := by unfold markAt; omega
      have hm1 : markAt k F j + 3 + 3 * kids0.size ≤ 1000000000 := by unfold markAt; omega
      have hnx : Hid (markAt k F (j + 1) = markAt k F j + 3 + 3 * kids0.size) := by show _ = _; unfold markAt; omega
      rw [markF_len] at c3
      have hcall := ih kids0.size (by omega) kids0 (Nat.le_refl _) a' cap' (markAt k F j + 1 + 1 + 1) w hkids (by omega) (by omega)
      generalize markAt k F j = m at hm0 hm1 hnx c0 c1 c2 hcall
      clear hd0 ih hkids
      have hp : ¬ (m + 1 + 1 + 1 + 3 * (kids0.size : Int) < 0) := by omega
      go_wp2_with fail
      refine hcall.mono ?_
      rintro e w1 ⟨rfl, rfl⟩
      go_wp2
      exact ⟨⟨j + 1, by omega, by go_num, by rw [hnx.out]; go_num⟩, by simp [intOf]; omega⟩
    · go_wp2_with fail
      go_ret
      have : markAt k F j = k + 3 * F.size := by unfold markAt; rw [Fo.drop_end j F (by omega)]; simp [Fo.size]
      exact ⟨by rw [← this]; rfl, rfl⟩
set_option maxHeartbeats 400000 in
theorem heldEx_any (kd sy n : Int) (a : Option Addr) (cap : Nat) (F : Fo) (k : Int) (w : World) (h : Slc w a (markF k F)) (hk0 : 0 ≤ k) (hk1 : k + 3 * F.size ≤ 1000000000) :
    Calls Tryd.prog 13 #[.agg #[.int .i64 kd, .int .i64 sy, .int .i64 n, .slice a F.len cap], .int .i64 k] w fun e w' => e = .returned (.int .i64 (k + 3 * F.size)) ∧ Below w.heap.size w w' := by
  have hb0 : Below w.heap.size w (w.alloc (.cells #[.int .i64 kd, .int .i64 sy, .int .i64 n, .slice a F.len cap] 29)) := (Below.refl _ _).alloc (Nat.le_refl _) _
  have hp : ¬ (k + 3 * (F.size : Int) < 0) := by omega
  go_enter Tryd.func13, Tryd.ntmps13
  go_wp2_with fail
  refine (heldExS_any F.size F (Nat.le_refl _) a cap k _ (h.below hb0) hk0 hk1).mono ?_
  rintro e w1 ⟨rfl, rfl⟩
  go_wp2
  go_ret
  exact ⟨rfl, hb0⟩
end Go.Proofs.YtpkinlcinccccaaDoor
