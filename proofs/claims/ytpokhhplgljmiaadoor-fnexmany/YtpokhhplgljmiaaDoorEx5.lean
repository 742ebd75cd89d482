/- What the specification's functions on what is looked for answer: which is ok, how many parts it has. -/
import Derived.Test.YtpokhhplgljmiaaDoorEx4
import Derived.WalkLawsBesides
namespace Go.Proofs.YtpokhhplgljmiaaDoor
open Go.ChangeShapes Go.WideShapes Go.ChangeAt Go.RowKit
set_option linter.unusedVariables false
set_option maxRecDepth 4000

/-- How many parts a kind has. -/
def kidsOf (kd : Int) : Int := if kd = 1 then 0 else if kd = 7 then 1 else if kd = 2 ∨ kd = 3 ∨ kd = 4 then 2 else if kd = 5 ∨ kd = 6 then 3 else -1

set_option maxHeartbeats 400000 in
theorem specKids_any (kd : Int) (w : World) :
    Calls Tryd.prog 33 #[.int .i64 kd] w fun e w' => e = .returned (.int .i64 (kidsOf kd)) ∧ w' = w := by
  rcases (show kd = 1 ∨ kd = 2 ∨ kd = 3 ∨ kd = 4 ∨ kd = 5 ∨ kd = 6 ∨ kd = 7 ∨ (kd ≠ 1 ∧ kd ≠ 2 ∧ kd ≠ 3 ∧ kd ≠ 4 ∧ kd ≠ 5 ∧ kd ≠ 6 ∧ kd ≠ 7) by omega) with rfl | rfl | rfl | rfl | rfl | rfl | rfl | ⟨h1, h2, h3, h4, h5, h6, h7⟩
  iterate 7
    · go_enter Tryd.func33, Tryd.ntmps33
      go_wp2
      go_ret
      exact ⟨rfl, rfl⟩
  · have hx : kidsOf kd = -1 := by simp [kidsOf, h1, h2, h3, h4, h5, h6, h7]
    rw [hx]
    have b1 : (kd == 1) = false := by simpa using h1
    have b2 : (kd == 2) = false := by simpa using h2
    have b3 : (kd == 3) = false := by simpa using h3
    have b4 : (kd == 4) = false := by simpa using h4
    have b5 : (kd == 5) = false := by simpa using h5
    have b6 : (kd == 6) = false := by simpa using h6
    have b7 : (kd == 7) = false := by simpa using h7
    clear hx h1 h2 h3 h4 h5 h6 h7
    go_enter Tryd.func33, Tryd.ntmps33
    go_wp2
    go_ret
    exact ⟨rfl, rfl⟩

/-- One without its parts is as it should. -/
def headB (kd sy n : Int) (len : Nat) : Bool := decide (kidsOf kd = len ∧ 0 ≤ sy ∧ sy < 5 ∧ (kd = 1 ∨ sy = 0) ∧ (if kd = 7 then 1 ≤ n ∧ n ≤ 20 else n = 0))
/-- All of a list are as they should, not deeper than so. -/
def formF : Nat → Fo → Bool
  | _, .nil => true
  | 0, .cons .. => false
  | d + 1, .cons kd sy n k r => headB kd sy n k.len && formF d k && formF (d + 1) r
def formX : Nat → Int → Int → Int → Fo → Bool
  | 0, _, _, _, _ => false
  | d + 1, kd, sy, n, k => headB kd sy n k.len && formF d k
theorem formF_step {d : Nat} {F : Fo} {k : Nat} {kd sy n : Int} {kids : Fo} (h : F.drop k = .cons kd sy n kids (F.drop (k + 1))) : formF d (F.drop k) = (formX d kd sy n kids && formF d (F.drop (k + 1))) := by
  rw [h]
  cases d with
  | zero => simp [formF, formX]
  | succ d => simp [formF, formX]
theorem formF_end {d : Nat} {F : Fo} {k : Nat} (h : F.len ≤ k) : formF d (F.drop k) = true := by
  rw [Fo.drop_end k F h]; cases d <;> rfl

theorem headB_yes {kd sy n : Int} {len : Nat} (hk : kidsOf kd = len) (h0 : ¬ sy < 0) (h5 : ¬ 5 ≤ sy) (h1 : kd = 1 ∨ sy = 0) (hn : kd ≠ 7 ∧ n = 0 ∨ kd = 7 ∧ 1 ≤ n ∧ n ≤ 20) : headB kd sy n len = true := by
  unfold headB
  rcases hn with ⟨h7, hn⟩ | ⟨h7, hn⟩
  · simp only [h7, if_false, decide_eq_true_eq]; exact ⟨hk, by omega, by omega, h1, hn⟩
  · simp only [h7, if_true, decide_eq_true_eq]; exact ⟨by rw [← h7]; exact hk, by omega, by omega, by rw [← h7]; exact h1, hn⟩
theorem formX_no {d : Nat} {kd sy n : Int} {F : Fo} (hn : kd ≠ 7 ∧ n ≠ 0 ∨ kd = 7 ∧ ¬ (1 ≤ n ∧ n ≤ 20)) : formX (d + 1) kd sy n F = false := by
  have : headB kd sy n F.len = false := by
    unfold headB
    rcases hn with ⟨h7, hn⟩ | ⟨h7, hn⟩
    · simp only [h7, if_false, decide_eq_false_iff_not]; exact fun h => hn h.2.2.2.2
    · simp only [h7, if_true, decide_eq_false_iff_not]; exact fun h => hn h.2.2.2.2
  simp [formX, this]
theorem specKids_below (kd : Int) (w : World) :
    Calls Tryd.prog 33 #[.int .i64 kd] w fun e w' => e = .returned (.int .i64 (kidsOf kd)) ∧ Below w.heap.size w w' :=
  (specKids_any kd w).mono fun e w' ⟨h1, h2⟩ => ⟨h1, h2 ▸ Below.refl _ _⟩
theorem box4 (w : World) (v0 v1 v2 v3 : Value) (t : TypeId) : (w.alloc (.cells #[v0, v1, v2, v3] t)).cell? ⟨w.heap.size, 0, none⟩ = some v0 ∧ (w.alloc (.cells #[v0, v1, v2, v3] t)).cell? ⟨w.heap.size, 1, none⟩ = some v1 ∧
    (w.alloc (.cells #[v0, v1, v2, v3] t)).cell? ⟨w.heap.size, 2, none⟩ = some v2 ∧ (w.alloc (.cells #[v0, v1, v2, v3] t)).cell? ⟨w.heap.size, 3, none⟩ = some v3 := by
  have h := heap_alloc_new w (.cells #[v0, v1, v2, v3] t)
  exact ⟨cell_at h 0, cell_at h 1, cell_at h 2, cell_at h 3⟩

set_option maxHeartbeats 6000000 in
theorem specForm_any : ∀ (d : Nat), d ≤ 5 → ∀ (kd sy n : Int) (a : Option Addr) (cap : Nat) (F : Fo) (w : World), Slc w a F →
    Calls Tryd.prog 19 #[.agg #[.int .i64 kd, .int .i64 sy, .int .i64 n, .slice a F.len cap], .int .i64 d] w fun e w' => e = .returned (.bool (formX d kd sy n F)) ∧ Below w.heap.size w w' := by
  intro d
  induction d with
  | zero =>
    intro _ kd sy n a cap F w h
    obtain ⟨x0, x1, x2, x3⟩ := box4 w (.int .i64 kd) (.int .i64 sy) (.int .i64 n) (.slice a F.len cap) 25
    have hb0 : Below w.heap.size w (w.alloc (.cells #[.int .i64 kd, .int .i64 sy, .int .i64 n, .slice a F.len cap] 25)) := (Below.refl _ _).alloc (Nat.le_refl _) _
    have hx : formX 0 kd sy n F = false := rfl
    rw [hx]
    have hcast : ((0 : Nat) : Int) = 0 := rfl
    rw [hcast]
    go_enter Tryd.func19, Tryd.ntmps19
    go_wp2
    have hany := after_any
    refine wp_region_after (by kernel_rfl) (by kernel_rfl) ?_
    repeat (go_big_quiet_step ((go_at_call 33; refine calls_after (specKids_below _ _))))
    refine wpQuiet_nil ?_
    intro w1 hu
    have hbe : Below w.heap.size w w1 := hb0.trans ((after_of hu).mono hb0.size)
    clear hu
    go_wp2
    go_ret
    exact ⟨rfl, hbe⟩
  | succ d ih =>
    intro hd kd sy n a cap F w h
    have hn := h.len
    unfold maxLen at hn
    obtain ⟨x0, x1, x2, x3⟩ := box4 w (.int .i64 kd) (.int .i64 sy) (.int .i64 n) (.slice a F.len cap) 25
    have hb0 : Below w.heap.size w (w.alloc (.cells #[.int .i64 kd, .int .i64 sy, .int .i64 n, .slice a F.len cap] 25)) := (Below.refl _ _).alloc (Nat.le_refl _) _
    have a0 := fun u : After (w.alloc (.cells #[.int .i64 kd, .int .i64 sy, .int .i64 n, .slice a F.len cap] 25)) => u.cell x0 (by simp)
    have a1 := fun u : After (w.alloc (.cells #[.int .i64 kd, .int .i64 sy, .int .i64 n, .slice a F.len cap] 25)) => u.cell x1 (by simp)
    have a2 := fun u : After (w.alloc (.cells #[.int .i64 kd, .int .i64 sy, .int .i64 n, .slice a F.len cap] 25)) => u.cell x2 (by simp)
    have a3 := fun u : After (w.alloc (.cells #[.int .i64 kd, .int .i64 sy, .int .i64 n, .slice a F.len cap] 25)) => u.cell x3 (by simp)
    obtain ⟨D, hD⟩ : ∃ D : Int, ((d + 1 : Nat) : Int) = D := ⟨_, rfl⟩
    rw [hD]
    have hD1 : decide (D < 1) = false := by simp; omega
    have hD2 : D - 1 = (d : Int) := by omega
    by_cases hk : kidsOf kd = (F.len : Int)
    · have bk : (kidsOf kd != (F.len : Int)) = false := by simp [hk]
      by_cases hs0 : sy < 0
      · have bs0 : decide (sy < 0) = true := by simpa using hs0
        have hx : formX (d + 1) kd sy n F = false := by simp [formX, headB]; omega
        rw [hx]
        clear hx ih hk
        go_enter Tryd.func19, Tryd.ntmps19
        go_wp2
        have hany := after_any
        refine wp_region_after (by kernel_rfl) (by kernel_rfl) ?_
        repeat (go_big_quiet_step ((go_at_call 33; refine calls_after (specKids_below _ _))))
        refine wpQuiet_nil ?_
        intro w1 hu
        have hbe : Below w.heap.size w w1 := hb0.trans ((after_of hu).mono hb0.size)
        clear hu
        go_wp2
        go_ret
        exact ⟨rfl, hbe⟩
      have bs0 : decide (sy < 0) = false := by simpa using hs0
      by_cases hs5 : 5 ≤ sy
      · have bs5 : decide (5 ≤ sy) = true := by simpa using hs5
        have hx : formX (d + 1) kd sy n F = false := by simp [formX, headB]; omega
        rw [hx]
        clear hx ih hk
        go_enter Tryd.func19, Tryd.ntmps19
        go_wp2
        have hany := after_any
        refine wp_region_after (by kernel_rfl) (by kernel_rfl) ?_
        repeat (go_big_quiet_step ((go_at_call 33; refine calls_after (specKids_below _ _))))
        refine wpQuiet_nil ?_
        intro w1 hu
        have hbe : Below w.heap.size w w1 := hb0.trans ((after_of hu).mono hb0.size)
        clear hu
        go_wp2
        go_ret
        exact ⟨rfl, hbe⟩
      have bs5 : decide (5 ≤ sy) = false := by simpa using hs5
      have hk' : Hid (kidsOf kd = (F.len : Int)) := hk
      clear hk
      by_cases h1 : kd = 1
      · have b1 : (kd != 1) = false := by simpa using h1
        have b7 : (kd == 7) = false := by simp [h1]
        have c7 : (kd != 7) = true := by simp [h1]
        by_cases h3 : n = 0
        · have b3 : (n != 0) = false := by simpa using h3
          have hh : Hid (headB kd sy n F.len = true) := headB_yes hk'.out hs0 hs5 (by omega) (by omega)
          clear h1 h3 hk'
          go_enter Tryd.func19, Tryd.ntmps19
          go_wp2
          have hany := after_any
          refine wp_region_after (by kernel_rfl) (by kernel_rfl) ?_
          repeat (go_big_quiet_step ((go_at_call 33; refine calls_after (specKids_below _ _))))
          refine wpQuiet_nil ?_
          intro w1 hu
          have y0 : w1.cell? ⟨w.heap.size, 0, none⟩ = some (.int .i64 kd) := by obtain ⟨u, rfl⟩ := hu; exact a0 u
          have y2 : w1.cell? ⟨w.heap.size, 2, none⟩ = some (.int .i64 n) := by obtain ⟨u, rfl⟩ := hu; exact a2 u
          have y3 : w1.cell? ⟨w.heap.size, 3, none⟩ = some (.slice a F.len cap) := by obtain ⟨u, rfl⟩ := hu; exact a3 u
          have hbe : Below w.heap.size w w1 := hb0.trans ((after_of hu).mono hb0.size)
          have hz : w.heap.size < w1.heap.size := by have := (after_of hu).size; simp at this; omega
          clear hu hany a0 a1 a2 a3 x0 x1 x2 x3
          go_wp2
          go_loopw [5] (fun i wr => ∃ k : Nat, k ≤ F.len ∧ i = .int .i64 k ∧ Hid (formF d F = formF d (F.drop k)) ∧ Below w1.heap.size w1 wr) (fun i _ => F.len - (intOf i).toNat)
          case atStart => exact ⟨0, Nat.zero_le _, rfl, by show _ = _; rw [Fo.drop_zero], Below.refl _ _⟩
          case round =>
            obtain ⟨k, hk, rfl, hr, hb⟩ := hrel
            have hbw : Below w.heap.size w wr := hbe.trans (hb.mono hbe.size)
            have z3 : wr.cell? ⟨w.heap.size, 3, none⟩ = some (.slice a F.len cap) := (hb.cell hz).trans y3
            clear y0 y2 y3
            by_cases hlt : k < F.len
            · obtain ⟨b, off, kd', sy', n', kids, p, cp, rfl, hbl, hdr, hsz, c0, c1, c2, c3, hkids⟩ := (h.below hbw).at hlt
              have hst : Hid (formF d (F.drop k) = _) := formF_step hdr
              clear hdr
              have hcall := ih (by omega) kd' sy' n' p cp kids wr hkids
              clear ih
              cases hev : formX d kd' sy' n' kids
              · rw [hev] at hcall
                go_wp2_with fail
                refine hcall.mono ?_
                rintro e w2 ⟨rfl, hb2⟩
                go_wp2
                go_ret
                exact ⟨ret_bool (by rw [formX, hr.out, hst.out, hev]; simp), hbw.trans (hb2.mono hbw.size)⟩
              · rw [hev] at hcall
                go_wp2_with fail
                refine hcall.mono ?_
                rintro e w2 ⟨rfl, hb2⟩
                go_wp2
                exact ⟨⟨k + 1, by omega, by go_num, by show _ = _; rw [hr.out, hst.out, hev]; rfl, hb.trans (hb2.mono hb.size)⟩, by simp [intOf]; omega⟩
            · clear ih
              go_wp2
              go_ret
              exact ⟨ret_bool (by rw [formX, hh.out, hr.out, formF_end (by omega)]; rfl), hbw⟩
        · have b3 : (n != 0) = true := by simpa using h3
          have hx : formX (d + 1) kd sy n F = false := formX_no (by omega)
          rw [hx]
          clear h1 h3 hk' ih hx
          go_enter Tryd.func19, Tryd.ntmps19
          go_wp2
          have hany := after_any
          refine wp_region_after (by kernel_rfl) (by kernel_rfl) ?_
          repeat (go_big_quiet_step ((go_at_call 33; refine calls_after (specKids_below _ _))))
          refine wpQuiet_nil ?_
          intro w1 hu
          have y0 : w1.cell? ⟨w.heap.size, 0, none⟩ = some (.int .i64 kd) := by obtain ⟨u, rfl⟩ := hu; exact a0 u
          have y2 : w1.cell? ⟨w.heap.size, 2, none⟩ = some (.int .i64 n) := by obtain ⟨u, rfl⟩ := hu; exact a2 u
          have y3 : w1.cell? ⟨w.heap.size, 3, none⟩ = some (.slice a F.len cap) := by obtain ⟨u, rfl⟩ := hu; exact a3 u
          have hbe : Below w.heap.size w w1 := hb0.trans ((after_of hu).mono hb0.size)
          have hz : w.heap.size < w1.heap.size := by have := (after_of hu).size; simp at this; omega
          clear hu hany a0 a1 a2 a3 x0 x1 x2 x3
          go_wp2
          go_ret
          exact ⟨rfl, hbe⟩
      · have b1 : (kd != 1) = true := by simpa using h1
        by_cases h2 : sy = 0
        · have b2 : (sy != 0) = false := by simpa using h2
          by_cases h7 : kd = 7
          · have b7 : (kd == 7) = true := by simpa using h7
            have c7 : (kd != 7) = false := by simpa using h7
            by_cases h3 : n < 1
            · have b3 : decide (n < 1) = true := by simpa using h3
              have hx : formX (d + 1) kd sy n F = false := formX_no (by omega)
              rw [hx]
              clear h1 h2 h7 hk' ih hx
              go_enter Tryd.func19, Tryd.ntmps19
              go_wp2
              have hany := after_any
              refine wp_region_after (by kernel_rfl) (by kernel_rfl) ?_
              repeat (go_big_quiet_step ((go_at_call 33; refine calls_after (specKids_below _ _))))
              refine wpQuiet_nil ?_
              intro w1 hu
              have y0 : w1.cell? ⟨w.heap.size, 0, none⟩ = some (.int .i64 kd) := by obtain ⟨u, rfl⟩ := hu; exact a0 u
              have y2 : w1.cell? ⟨w.heap.size, 2, none⟩ = some (.int .i64 n) := by obtain ⟨u, rfl⟩ := hu; exact a2 u
              have y3 : w1.cell? ⟨w.heap.size, 3, none⟩ = some (.slice a F.len cap) := by obtain ⟨u, rfl⟩ := hu; exact a3 u
              have hbe : Below w.heap.size w w1 := hb0.trans ((after_of hu).mono hb0.size)
              have hz : w.heap.size < w1.heap.size := by have := (after_of hu).size; simp at this; omega
              clear hu hany a0 a1 a2 a3 x0 x1 x2 x3
              go_wp2
              go_ret
              exact ⟨rfl, hbe⟩
            · have b3 : decide (n < 1) = false := by simpa using h3
              by_cases h4 : 20 < n
              · have b4 : decide (20 < n) = true := by simpa using h4
                have hx : formX (d + 1) kd sy n F = false := formX_no (by omega)
                rw [hx]
                clear h1 h2 h7 hk' ih hx
                go_enter Tryd.func19, Tryd.ntmps19
                go_wp2
                have hany := after_any
                refine wp_region_after (by kernel_rfl) (by kernel_rfl) ?_
                repeat (go_big_quiet_step ((go_at_call 33; refine calls_after (specKids_below _ _))))
                refine wpQuiet_nil ?_
                intro w1 hu
                have y0 : w1.cell? ⟨w.heap.size, 0, none⟩ = some (.int .i64 kd) := by obtain ⟨u, rfl⟩ := hu; exact a0 u
                have y2 : w1.cell? ⟨w.heap.size, 2, none⟩ = some (.int .i64 n) := by obtain ⟨u, rfl⟩ := hu; exact a2 u
                have y3 : w1.cell? ⟨w.heap.size, 3, none⟩ = some (.slice a F.len cap) := by obtain ⟨u, rfl⟩ := hu; exact a3 u
                have hbe : Below w.heap.size w w1 := hb0.trans ((after_of hu).mono hb0.size)
                have hz : w.heap.size < w1.heap.size := by have := (after_of hu).size; simp at this; omega
                clear hu hany a0 a1 a2 a3 x0 x1 x2 x3
                go_wp2
                go_ret
                exact ⟨rfl, hbe⟩
              · have b4 : decide (20 < n) = false := by simpa using h4
                have hh : Hid (headB kd sy n F.len = true) := headB_yes hk'.out hs0 hs5 (by omega) (by omega)
                clear h1 h2 h7 hk'
                go_enter Tryd.func19, Tryd.ntmps19
                go_wp2
                have hany := after_any
                refine wp_region_after (by kernel_rfl) (by kernel_rfl) ?_
                repeat (go_big_quiet_step ((go_at_call 33; refine calls_after (specKids_below _ _))))
                refine wpQuiet_nil ?_
                intro w1 hu
                have y0 : w1.cell? ⟨w.heap.size, 0, none⟩ = some (.int .i64 kd) := by obtain ⟨u, rfl⟩ := hu; exact a0 u
                have y2 : w1.cell? ⟨w.heap.size, 2, none⟩ = some (.int .i64 n) := by obtain ⟨u, rfl⟩ := hu; exact a2 u
                have y3 : w1.cell? ⟨w.heap.size, 3, none⟩ = some (.slice a F.len cap) := by obtain ⟨u, rfl⟩ := hu; exact a3 u
                have hbe : Below w.heap.size w w1 := hb0.trans ((after_of hu).mono hb0.size)
                have hz : w.heap.size < w1.heap.size := by have := (after_of hu).size; simp at this; omega
                clear hu hany a0 a1 a2 a3 x0 x1 x2 x3
                go_wp2
                go_loopw [5] (fun i wr => ∃ k : Nat, k ≤ F.len ∧ i = .int .i64 k ∧ Hid (formF d F = formF d (F.drop k)) ∧ Below w1.heap.size w1 wr) (fun i _ => F.len - (intOf i).toNat)
                case atStart => exact ⟨0, Nat.zero_le _, rfl, by show _ = _; rw [Fo.drop_zero], Below.refl _ _⟩
                case round =>
                  obtain ⟨k, hk, rfl, hr, hb⟩ := hrel
                  have hbw : Below w.heap.size w wr := hbe.trans (hb.mono hbe.size)
                  have z3 : wr.cell? ⟨w.heap.size, 3, none⟩ = some (.slice a F.len cap) := (hb.cell hz).trans y3
                  clear y0 y2 y3
                  by_cases hlt : k < F.len
                  · obtain ⟨b, off, kd', sy', n', kids, p, cp, rfl, hbl, hdr, hsz, c0, c1, c2, c3, hkids⟩ := (h.below hbw).at hlt
                    have hst : Hid (formF d (F.drop k) = _) := formF_step hdr
                    clear hdr
                    have hcall := ih (by omega) kd' sy' n' p cp kids wr hkids
                    clear ih
                    cases hev : formX d kd' sy' n' kids
                    · rw [hev] at hcall
                      go_wp2_with fail
                      refine hcall.mono ?_
                      rintro e w2 ⟨rfl, hb2⟩
                      go_wp2
                      go_ret
                      exact ⟨ret_bool (by rw [formX, hr.out, hst.out, hev]; simp), hbw.trans (hb2.mono hbw.size)⟩
                    · rw [hev] at hcall
                      go_wp2_with fail
                      refine hcall.mono ?_
                      rintro e w2 ⟨rfl, hb2⟩
                      go_wp2
                      exact ⟨⟨k + 1, by omega, by go_num, by show _ = _; rw [hr.out, hst.out, hev]; rfl, hb.trans (hb2.mono hb.size)⟩, by simp [intOf]; omega⟩
                  · clear ih
                    go_wp2
                    go_ret
                    exact ⟨ret_bool (by rw [formX, hh.out, hr.out, formF_end (by omega)]; rfl), hbw⟩
          · have b7 : (kd == 7) = false := by simpa using h7
            have c7 : (kd != 7) = true := by simpa using h7
            by_cases h3 : n = 0
            · have b3 : (n != 0) = false := by simpa using h3
              have hh : Hid (headB kd sy n F.len = true) := headB_yes hk'.out hs0 hs5 (by omega) (by omega)
              clear h1 h2 h3 h7 hk'
              go_enter Tryd.func19, Tryd.ntmps19
              go_wp2
              have hany := after_any
              refine wp_region_after (by kernel_rfl) (by kernel_rfl) ?_
              repeat (go_big_quiet_step ((go_at_call 33; refine calls_after (specKids_below _ _))))
              refine wpQuiet_nil ?_
              intro w1 hu
              have y0 : w1.cell? ⟨w.heap.size, 0, none⟩ = some (.int .i64 kd) := by obtain ⟨u, rfl⟩ := hu; exact a0 u
              have y2 : w1.cell? ⟨w.heap.size, 2, none⟩ = some (.int .i64 n) := by obtain ⟨u, rfl⟩ := hu; exact a2 u
              have y3 : w1.cell? ⟨w.heap.size, 3, none⟩ = some (.slice a F.len cap) := by obtain ⟨u, rfl⟩ := hu; exact a3 u
              have hbe : Below w.heap.size w w1 := hb0.trans ((after_of hu).mono hb0.size)
              have hz : w.heap.size < w1.heap.size := by have := (after_of hu).size; simp at this; omega
              clear hu hany a0 a1 a2 a3 x0 x1 x2 x3
              go_wp2
              go_loopw [5] (fun i wr => ∃ k : Nat, k ≤ F.len ∧ i = .int .i64 k ∧ Hid (formF d F = formF d (F.drop k)) ∧ Below w1.heap.size w1 wr) (fun i _ => F.len - (intOf i).toNat)
              case atStart => exact ⟨0, Nat.zero_le _, rfl, by show _ = _; rw [Fo.drop_zero], Below.refl _ _⟩
              case round =>
                obtain ⟨k, hk, rfl, hr, hb⟩ := hrel
                have hbw : Below w.heap.size w wr := hbe.trans (hb.mono hbe.size)
                have z3 : wr.cell? ⟨w.heap.size, 3, none⟩ = some (.slice a F.len cap) := (hb.cell hz).trans y3
                clear y0 y2 y3
                by_cases hlt : k < F.len
                · obtain ⟨b, off, kd', sy', n', kids, p, cp, rfl, hbl, hdr, hsz, c0, c1, c2, c3, hkids⟩ := (h.below hbw).at hlt
                  have hst : Hid (formF d (F.drop k) = _) := formF_step hdr
                  clear hdr
                  have hcall := ih (by omega) kd' sy' n' p cp kids wr hkids
                  clear ih
                  cases hev : formX d kd' sy' n' kids
                  · rw [hev] at hcall
                    go_wp2_with fail
                    refine hcall.mono ?_
                    rintro e w2 ⟨rfl, hb2⟩
                    go_wp2
                    go_ret
                    exact ⟨ret_bool (by rw [formX, hr.out, hst.out, hev]; simp), hbw.trans (hb2.mono hbw.size)⟩
                  · rw [hev] at hcall
                    go_wp2_with fail
                    refine hcall.mono ?_
                    rintro e w2 ⟨rfl, hb2⟩
                    go_wp2
                    exact ⟨⟨k + 1, by omega, by go_num, by show _ = _; rw [hr.out, hst.out, hev]; rfl, hb.trans (hb2.mono hb.size)⟩, by simp [intOf]; omega⟩
                · clear ih
                  go_wp2
                  go_ret
                  exact ⟨ret_bool (by rw [formX, hh.out, hr.out, formF_end (by omega)]; rfl), hbw⟩
            · have b3 : (n != 0) = true := by simpa using h3
              have hx : formX (d + 1) kd sy n F = false := formX_no (by omega)
              rw [hx]
              clear h1 h2 h3 h7 hk' ih hx
              go_enter Tryd.func19, Tryd.ntmps19
              go_wp2
              have hany := after_any
              refine wp_region_after (by kernel_rfl) (by kernel_rfl) ?_
              repeat (go_big_quiet_step ((go_at_call 33; refine calls_after (specKids_below _ _))))
              refine wpQuiet_nil ?_
              intro w1 hu
              have y0 : w1.cell? ⟨w.heap.size, 0, none⟩ = some (.int .i64 kd) := by obtain ⟨u, rfl⟩ := hu; exact a0 u
              have y2 : w1.cell? ⟨w.heap.size, 2, none⟩ = some (.int .i64 n) := by obtain ⟨u, rfl⟩ := hu; exact a2 u
              have y3 : w1.cell? ⟨w.heap.size, 3, none⟩ = some (.slice a F.len cap) := by obtain ⟨u, rfl⟩ := hu; exact a3 u
              have hbe : Below w.heap.size w w1 := hb0.trans ((after_of hu).mono hb0.size)
              have hz : w.heap.size < w1.heap.size := by have := (after_of hu).size; simp at this; omega
              clear hu hany a0 a1 a2 a3 x0 x1 x2 x3
              go_wp2
              go_ret
              exact ⟨rfl, hbe⟩
        · have b2 : (sy != 0) = true := by simpa using h2
          have hx : formX (d + 1) kd sy n F = false := by simp [formX, headB, h1, h2]
          rw [hx]
          clear hx ih h1 h2
          go_enter Tryd.func19, Tryd.ntmps19
          go_wp2
          have hany := after_any
          refine wp_region_after (by kernel_rfl) (by kernel_rfl) ?_
          repeat (go_big_quiet_step ((go_at_call 33; refine calls_after (specKids_below _ _))))
          refine wpQuiet_nil ?_
          intro w1 hu
          have hbe : Below w.heap.size w w1 := hb0.trans ((after_of hu).mono hb0.size)
          clear hu
          go_wp2
          go_ret
          exact ⟨rfl, hbe⟩
    · have bk : (kidsOf kd != (F.len : Int)) = true := by simpa using hk
      have hx : formX (d + 1) kd sy n F = false := by simp [formX, headB, hk]
      rw [hx]
      clear hx ih hk
      go_enter Tryd.func19, Tryd.ntmps19
      go_wp2
      have hany := after_any
      refine wp_region_after (by kernel_rfl) (by kernel_rfl) ?_
      repeat (go_big_quiet_step ((go_at_call 33; refine calls_after (specKids_below _ _))))
      refine wpQuiet_nil ?_
      intro w1 hu
      have hbe : Below w.heap.size w w1 := hb0.trans ((after_of hu).mono hb0.size)
      clear hu
      go_wp2
      go_ret
      exact ⟨rfl, hbe⟩
end Go.Proofs.YtpokhhplgljmiaaDoor
