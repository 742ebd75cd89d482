/- What the specification's functions on what is looked for answer: how many parts, whether it is ok, whether two are one. -/
import Derived.Test.YtpokhhplgljmiaaDoorEx5
namespace Go.Proofs.YtpokhhplgljmiaaDoor
open Go.ChangeShapes Go.WideShapes Go.ChangeAt Go.RowKit
set_option linter.unusedVariables false
set_option maxRecDepth 4000

/-- How many there are of a list, with their parts, not deeper than so. -/
def manyF : Nat → Fo → Nat
  | _, .nil => 0
  | 0, .cons .. => 0
  | d + 1, .cons _ _ _ k r => 1 + manyF d k + manyF (d + 1) r
theorem manyF_zero (F : Fo) : manyF 0 F = 0 := by cases F <;> rfl
theorem manyF_step {d : Nat} {F : Fo} {k : Nat} {kd sy n : Int} {kids : Fo} (h : F.drop k = .cons kd sy n kids (F.drop (k + 1))) : manyF (d + 1) (F.drop k) = 1 + manyF d kids + manyF (d + 1) (F.drop (k + 1)) := by
  rw [h]; rfl
theorem manyF_end {d : Nat} {F : Fo} {k : Nat} (h : F.len ≤ k) : manyF d (F.drop k) = 0 := by
  rw [Fo.drop_end k F h]; cases d <;> rfl
theorem manyF_le : ∀ (d : Nat) (F : Fo), manyF d F ≤ F.size
  | d, .nil => by cases d <;> simp [manyF]
  | 0, .cons .. => by simp [manyF]
  | d + 1, .cons _ _ _ k r => by
    have h1 := manyF_le d k
    have h2 := manyF_le (d + 1) r
    simp only [manyF, Fo.size]; omega
theorem manyF_form : ∀ (d : Nat) (F : Fo), formF d F = true → manyF d F = F.size
  | d, .nil, _ => by cases d <;> rfl
  | 0, .cons .., h => by simp [formF] at h
  | d + 1, .cons _ _ _ k r, h => by
    simp only [formF, Bool.and_eq_true] at h
    simp only [manyF, Fo.size, manyF_form d k h.1.2, manyF_form (d + 1) r h.2]; omega

set_option maxHeartbeats 1000000 in
theorem specMany_any : ∀ (d : Nat), d ≤ 5 → ∀ (kd sy n : Int) (a : Option Addr) (cap : Nat) (F : Fo) (w : World), Slc w a F → F.size ≤ 1048576 →
    Calls Tryd.prog 20 #[.agg #[.int .i64 kd, .int .i64 sy, .int .i64 n, .slice a F.len cap], .int .i64 d] w fun e w' => e = .returned (.int .i64 (1 + manyF d F : Nat)) ∧ Below w.heap.size w w' := by
  intro d
  induction d with
  | zero =>
    intro _ kd sy n a cap F w h hs
    have hn := h.len
    unfold maxLen at hn
    have hb0 : Below w.heap.size w (w.alloc (.cells #[.int .i64 kd, .int .i64 sy, .int .i64 n, .slice a F.len cap] 25)) := (Below.refl _ _).alloc (Nat.le_refl _) _
    rw [manyF_zero]
    have hcast : ((0 : Nat) : Int) = 0 := rfl
    rw [hcast]
    by_cases h0 : 0 < F.len
    · go_enter Tryd.func20, Tryd.ntmps20
      go_wp2
      go_loopw [5, 6] (fun m i wr => m = .int .i64 1 ∧ i = .int .i64 0 ∧ wr = w.alloc (.cells #[.int .i64 kd, .int .i64 sy, .int .i64 n, .slice a F.len cap] 25)) (fun _ _ _ => 0)
      case atStart => exact ⟨rfl, rfl, rfl⟩
      case round =>
        obtain ⟨rfl, rfl, rfl⟩ := hrel
        go_wp2
        go_ret
        exact ⟨rfl, hb0⟩
    · go_enter Tryd.func20, Tryd.ntmps20
      go_wp2
      go_loopw [5, 6] (fun m i wr => m = .int .i64 1 ∧ i = .int .i64 0 ∧ wr = w.alloc (.cells #[.int .i64 kd, .int .i64 sy, .int .i64 n, .slice a F.len cap] 25)) (fun _ _ _ => 0)
      case atStart => exact ⟨rfl, rfl, rfl⟩
      case round =>
        obtain ⟨rfl, rfl, rfl⟩ := hrel
        go_wp2
        go_ret
        exact ⟨rfl, hb0⟩
  | succ d ih =>
    intro hd kd sy n a cap F w h hs
    have hn := h.len
    unfold maxLen at hn
    obtain ⟨x0, x1, x2, x3⟩ := box4 w (.int .i64 kd) (.int .i64 sy) (.int .i64 n) (.slice a F.len cap) 25
    have hb0 : Below w.heap.size w (w.alloc (.cells #[.int .i64 kd, .int .i64 sy, .int .i64 n, .slice a F.len cap] 25)) := (Below.refl _ _).alloc (Nat.le_refl _) _
    obtain ⟨w0, hw0⟩ : ∃ w0, w.alloc (.cells #[.int .i64 kd, .int .i64 sy, .int .i64 n, .slice a F.len cap] 25) = w0 := ⟨_, rfl⟩
    have hz0 : w.heap.size < w0.heap.size := by rw [← hw0]; simp
    obtain ⟨D, hD⟩ : ∃ D : Int, ((d + 1 : Nat) : Int) = D := ⟨_, rfl⟩
    rw [hD]
    have hD1 : 0 < D := by omega
    have hD2 : D - 1 = (d : Int) := by omega
    have hmle := manyF_le (d + 1) F
    obtain ⟨M, hM⟩ : ∃ M : Nat, 1 + manyF (d + 1) F = M := ⟨_, rfl⟩
    rw [hM]
    go_enter Tryd.func20, Tryd.ntmps20
    go_wp2
    rw [hw0] at x3 hb0
    clear x0 x1 x2
    go_loopw [5, 6] (fun m i wr => ∃ k t : Nat, k ≤ F.len ∧ i = .int .i64 k ∧ m = .int .i64 t ∧ Hid (t + manyF (d + 1) (F.drop k) = M) ∧ Below w0.heap.size w0 wr) (fun _ i _ => F.len - (intOf i).toNat)
    case atStart => exact ⟨0, 1, Nat.zero_le _, rfl, rfl, by show _ = _; rw [Fo.drop_zero]; exact hM, Below.refl _ _⟩
    case round =>
      obtain ⟨k, t, hk, rfl, rfl, hr, hb⟩ := hrel
      have hbw : Below w.heap.size w wr := hb0.trans (hb.mono hb0.size)
      have z3 : wr.cell? ⟨w.heap.size, 3, none⟩ = some (.slice a F.len cap) := (hb.cell hz0).trans x3
      have hzr : w.heap.size < wr.heap.size := Nat.lt_of_lt_of_le hz0 hb.size
      by_cases hlt : k < F.len
      · obtain ⟨b, off, kd', sy', n', kids, p, cp, rfl, hbl, hdr, hsz, c0, c1, c2, c3, hkids⟩ := (h.below hbw).at hlt
        have hst : Hid (manyF (d + 1) (F.drop k) = _) := manyF_step hdr
        clear hdr
        have hcall := ih (by omega) kd' sy' n' p cp kids wr hkids (by omega)
        have hkm := manyF_le d kids
        have ht : t ≤ 1048577 := by have := hr.out; omega
        obtain ⟨K, hK⟩ : ∃ K, 1 + manyF d kids = K := ⟨_, rfl⟩
        rw [hK] at hcall
        have hK1 : K ≤ 1048577 := by omega
        clear ih
        go_wp2_with fail
        refine hcall.mono ?_
        rintro e w2 ⟨rfl, hb2⟩
        go_wp2
        exact ⟨⟨k + 1, t + K, by omega, by go_num, by go_num, by show _ = _; have h1 := hr.out; have h2 := hst.out; omega, hb.trans (hb2.mono hb.size)⟩, by simp [intOf]; omega⟩
      · clear ih
        go_wp2
        go_ret
        have : t = M := by have := hr.out; rw [manyF_end (by omega)] at this; omega
        exact ⟨by rw [← this]; rfl, hbw⟩

/-- It can be looked for. -/
def okX (kd sy n : Int) (F : Fo) : Bool := formX 5 kd sy n F && decide (1 + F.size ≤ 12)
theorem formX_form {d : Nat} {kd sy n : Int} {F : Fo} (h : formX (d + 1) kd sy n F = true) : formF d F = true := by
  simp only [formX, Bool.and_eq_true] at h; exact h.2
theorem formF_up : ∀ (d : Nat) (F : Fo), formF d F = true → formF (d + 1) F = true
  | d, .nil, _ => by cases d <;> rfl
  | 0, .cons .., h => by simp [formF] at h
  | d + 1, .cons _ _ _ k r, h => by
    simp only [formF, Bool.and_eq_true] at h ⊢
    exact ⟨⟨h.1.1, formF_up d k h.1.2⟩, formF_up (d + 1) r h.2⟩
theorem many_of_form {kd sy n : Int} {F : Fo} (h : formX 5 kd sy n F = true) : manyF 5 F = F.size :=
  manyF_form 5 F (formF_up 4 F (formX_form h))

set_option maxHeartbeats 400000 in
theorem specExOk_any (kd sy n : Int) (a : Option Addr) (cap : Nat) (F : Fo) (w : World) (h : Slc w a F) (hs : F.size ≤ 1048576) :
    Calls Tryd.prog 7 #[.agg #[.int .i64 kd, .int .i64 sy, .int .i64 n, .slice a F.len cap]] w fun e w' => e = .returned (.bool (okX kd sy n F)) ∧ Below w.heap.size w w' := by
  obtain ⟨x0, x1, x2, x3⟩ := box4 w (.int .i64 kd) (.int .i64 sy) (.int .i64 n) (.slice a F.len cap) 25
  have hb0 : Below w.heap.size w (w.alloc (.cells #[.int .i64 kd, .int .i64 sy, .int .i64 n, .slice a F.len cap] 25)) := (Below.refl _ _).alloc (Nat.le_refl _) _
  have hz0 : w.heap.size < (w.alloc (.cells #[.int .i64 kd, .int .i64 sy, .int .i64 n, .slice a F.len cap] 25)).heap.size := by simp
  obtain ⟨w0, hw0⟩ : ∃ w0, w.alloc (.cells #[.int .i64 kd, .int .i64 sy, .int .i64 n, .slice a F.len cap] 25) = w0 := ⟨_, rfl⟩
  rw [hw0] at x0 x1 x2 x3 hb0 hz0
  have h0 := h.below hb0
  have hcast : ((5 : Nat) : Int) = 5 := rfl
  cases hf : formX 5 kd sy n F
  · have hx : okX kd sy n F = false := by simp [okX, hf]
    rw [hx]
    have hc := specForm_any 5 (by omega) kd sy n a cap F w0 h0
    rw [hf, hcast] at hc
    clear hcast
    go_enter Tryd.func7, Tryd.ntmps7
    go_wp2_with fail
    refine (hc).mono ?_
    rintro e w1 ⟨rfl, hb1⟩
    have hbw := hb0.trans (hb1.mono hb0.size)
    go_wp2
    go_ret
    exact ⟨rfl, hbw⟩
  · have hm := many_of_form hf
    have hx : Hid (okX kd sy n F = decide (((1 + F.size : Nat) : Int) ≤ 12)) := by show _ = _; unfold okX; rw [hf]; simp; omega
    have hc := specForm_any 5 (by omega) kd sy n a cap F w0 h0
    have hc2 := fun w' => specMany_any 5 (by omega) kd sy n a cap F w'
    rw [hf, hcast] at hc
    rw [hm, hcast] at hc2
    clear hcast
    go_enter Tryd.func7, Tryd.ntmps7
    go_wp2_with fail
    refine (hc).mono ?_
    rintro e w1 ⟨rfl, hb1⟩
    have hbw := hb0.trans (hb1.mono hb0.size)
    have y0 := (hb1.cell hz0).trans x0
    have y1 := (hb1.cell hz0).trans x1
    have y2 := (hb1.cell hz0).trans x2
    have y3 := (hb1.cell hz0).trans x3
    go_wp2_with fail
    refine (hc2 _ (h.below hbw) hs).mono ?_
    rintro e w2 ⟨rfl, hb2⟩
    go_wp2
    go_ret
    exact ⟨ret_bool (by rw [hx.out]; exact decide_eq_decide.2 (by omega)), hbw.trans (hb2.mono hbw.size)⟩

def manyX (kd sy n : Int) (F : Fo) : Nat := if okX kd sy n F then 1 + F.size else 0

set_option maxHeartbeats 400000 in
theorem specExMany_any (kd sy n : Int) (a : Option Addr) (cap : Nat) (F : Fo) (w : World) (h : Slc w a F) (hs : F.size ≤ 1048576) :
    Calls Tryd.prog 12 #[.agg #[.int .i64 kd, .int .i64 sy, .int .i64 n, .slice a F.len cap]] w fun e w' => e = .returned (.int .i64 (manyX kd sy n F)) ∧ Below w.heap.size w w' := by
  obtain ⟨x0, x1, x2, x3⟩ := box4 w (.int .i64 kd) (.int .i64 sy) (.int .i64 n) (.slice a F.len cap) 25
  have hb0 : Below w.heap.size w (w.alloc (.cells #[.int .i64 kd, .int .i64 sy, .int .i64 n, .slice a F.len cap] 25)) := (Below.refl _ _).alloc (Nat.le_refl _) _
  have hz0 : w.heap.size < (w.alloc (.cells #[.int .i64 kd, .int .i64 sy, .int .i64 n, .slice a F.len cap] 25)).heap.size := by simp
  obtain ⟨w0, hw0⟩ : ∃ w0, w.alloc (.cells #[.int .i64 kd, .int .i64 sy, .int .i64 n, .slice a F.len cap] 25) = w0 := ⟨_, rfl⟩
  rw [hw0] at x0 x1 x2 x3 hb0 hz0
  have h0 := h.below hb0
  have hcast : ((5 : Nat) : Int) = 5 := rfl
  have hc := specExOk_any kd sy n a cap F w0 h0 hs
  cases hf : okX kd sy n F
  · have hx : manyX kd sy n F = 0 := by simp [manyX, hf]
    rw [hx]
    rw [hf] at hc
    clear hcast
    go_enter Tryd.func12, Tryd.ntmps12
    go_wp2_with fail
    refine (hc).mono ?_
    rintro e w1 ⟨rfl, hb1⟩
    have hbw := hb0.trans (hb1.mono hb0.size)
    go_wp2
    go_ret
    exact ⟨rfl, hbw⟩
  · have hx : manyX kd sy n F = 1 + F.size := by simp [manyX, hf]
    rw [hx]
    rw [hf] at hc
    have hff : formX 5 kd sy n F = true := by simp only [okX, Bool.and_eq_true] at hf; exact hf.1
    have hc2 := fun w' => specMany_any 5 (by omega) kd sy n a cap F w'
    rw [many_of_form hff, hcast] at hc2
    clear hcast
    go_enter Tryd.func12, Tryd.ntmps12
    go_wp2_with fail
    refine (hc).mono ?_
    rintro e w1 ⟨rfl, hb1⟩
    have hbw := hb0.trans (hb1.mono hb0.size)
    have y0 := (hb1.cell hz0).trans x0
    have y1 := (hb1.cell hz0).trans x1
    have y2 := (hb1.cell hz0).trans x2
    have y3 := (hb1.cell hz0).trans x3
    go_wp2_with fail
    refine (hc2 _ (h.below hbw) hs).mono ?_
    rintro e w2 ⟨rfl, hb2⟩
    go_wp2
    go_ret
    exact ⟨rfl, hbw.trans (hb2.mono hbw.size)⟩

theorem eqX_same (kd sy n : Int) (F F' : Fo) : eqX kd sy n F kd sy n F' = eqF F F' := by simp [eqX]
theorem box44 (w : World) (v0 v1 v2 v3 u0 u1 u2 u3 : Value) (t : TypeId) {w0 : World} (hw0 : (w.alloc (.cells #[v0, v1, v2, v3] t)).alloc (.cells #[u0, u1, u2, u3] t) = w0) :
    (w0.cell? ⟨w.heap.size, 0, none⟩ = some v0 ∧ w0.cell? ⟨w.heap.size, 1, none⟩ = some v1 ∧ w0.cell? ⟨w.heap.size, 2, none⟩ = some v2 ∧ w0.cell? ⟨w.heap.size, 3, none⟩ = some v3) ∧
    (w0.cell? ⟨w.heap.size + 1, 0, none⟩ = some u0 ∧ w0.cell? ⟨w.heap.size + 1, 1, none⟩ = some u1 ∧ w0.cell? ⟨w.heap.size + 1, 2, none⟩ = some u2 ∧ w0.cell? ⟨w.heap.size + 1, 3, none⟩ = some u3) ∧
    Below w.heap.size w w0 ∧ w0.heap.size = w.heap.size + 1 + 1 := by
  have h1 : w0.heap[w.heap.size]? = some (.cells #[v0, v1, v2, v3] t) := by
    rw [← hw0]; exact (Below.heap_alloc _ _ _ (by simp)).trans (heap_alloc_new w _)
  have h2 : w0.heap[w.heap.size + 1]? = some (.cells #[u0, u1, u2, u3] t) := by
    have := heap_alloc_new (w.alloc (.cells #[v0, v1, v2, v3] t)) (.cells #[u0, u1, u2, u3] t)
    rw [World.size_alloc, hw0] at this
    exact this
  refine ⟨⟨cell_at h1 0, cell_at h1 1, cell_at h1 2, cell_at h1 3⟩, ⟨cell_at h2 0, cell_at h2 1, cell_at h2 2, cell_at h2 3⟩, ?_, ?_⟩
  · rw [← hw0]; exact ((Below.refl _ _).alloc (Nat.le_refl _) _).alloc (by simp) _
  · rw [← hw0]; simp

set_option maxHeartbeats 2000000 in
theorem specExSame_any : ∀ (N : Nat) (F : Fo), F.size ≤ N → ∀ (F' : Fo) (kd sy n kd' sy' n' : Int) (a a' : Option Addr) (cap cap' : Nat) (w : World), Slc w a F → Slc w a' F' →
    Calls Tryd.prog 15 #[.agg #[.int .i64 kd, .int .i64 sy, .int .i64 n, .slice a F.len cap], .agg #[.int .i64 kd', .int .i64 sy', .int .i64 n', .slice a' F'.len cap']] w
      fun e w' => e = .returned (.bool (eqX kd sy n F kd' sy' n' F')) ∧ Below w.heap.size w w' := by
  intro N
  induction N using Nat.strongRecOn with
  | _ N ih =>
  intro F hN F' kd sy n kd' sy' n' a a' cap cap' w h h'
  have hn := h.len
  have hn' := h'.len
  unfold maxLen at hn hn'
  obtain ⟨w0, hw0⟩ : ∃ w0, (w.alloc (.cells #[.int .i64 kd, .int .i64 sy, .int .i64 n, .slice a F.len cap] 25)).alloc (.cells #[.int .i64 kd', .int .i64 sy', .int .i64 n', .slice a' F'.len cap'] 25) = w0 := ⟨_, rfl⟩
  obtain ⟨⟨x0, x1, x2, x3⟩, ⟨y0, y1, y2, y3⟩, hb0, hz0⟩ := box44 w _ _ _ _ _ _ _ _ _ hw0
  by_cases h1 : kd = kd'
  · by_cases h2 : sy = sy'
    · by_cases h3 : n = n'
      · subst h1 h2 h3
        by_cases h4 : F.len = F'.len
        · have b1 : (kd != kd) = false := by simp
          have b2 : (sy != sy) = false := by simp
          have b3 : (n != n) = false := by simp
          have b4 : ((F.len : Int) != (F'.len : Int)) = false := by simp [h4]
          have H4 : Hid (F.len = F'.len) := h4
          have hle : F.len ≤ F'.len := by omega
          clear h4
          go_enter Tryd.func15, Tryd.ntmps15
          go_wp2
          go_loopw [5] (fun i wr => ∃ k : Nat, k ≤ F.len ∧ i = .int .i64 k ∧ Hid (eqF F F' = eqF (F.drop k) (F'.drop k)) ∧ Below w0.heap.size w0 wr) (fun i _ => F.len - (intOf i).toNat)
          case atStart => exact ⟨0, Nat.zero_le _, rfl, by show _ = _; rw [Fo.drop_zero, Fo.drop_zero], Below.refl _ _⟩
          case round =>
          obtain ⟨k, hk, rfl, hr, hb⟩ := hrel
          have hbw : Below w.heap.size w wr := hb0.trans (hb.mono hb0.size)
          have hszr := hb.size
          have hzA : w.heap.size < wr.heap.size := by omega
          have hzB : w.heap.size + 1 < wr.heap.size := by omega
          have p3 : wr.cell? ⟨w.heap.size, 3, none⟩ = some (.slice a F.len cap) := (hb.cell (p := ⟨w.heap.size, 3, none⟩) (show w.heap.size < w0.heap.size by omega)).trans x3
          have q3 : wr.cell? ⟨w.heap.size + 1, 3, none⟩ = some (.slice a' F'.len cap') := (hb.cell (p := ⟨w.heap.size + 1, 3, none⟩) (show w.heap.size + 1 < w0.heap.size by omega)).trans y3
          clear x0 x1 x2 x3 y0 y1 y2 y3 hw0
          by_cases hlt : k < F.len
          · obtain ⟨b, off, kd1, sy1, n1, kids, p, cp, rfl, hbl, hd, hsz, c0, c1, c2, c3, hkids⟩ := (h.below hbw).at hlt
            obtain ⟨b', off', kd2, sy2, n2, kids', p', cp', rfl, hbl', hd', hsz', d0, d1, d2, d3, hkids'⟩ := (h'.below hbw).at (k := k) (by omega)
            have hst : Hid (eqF (F.drop k) (F'.drop k) = _) := eqF_step hd hd'
            have hlt' : k < F'.len := by omega
            clear hd hd'
            have hcall := fun (u : After wr) => calls_after (u := u) (ih kids.size (by omega) kids (Nat.le_refl _) kids' kd1 sy1 n1 kd2 sy2 n2 p p' cp cp' u.v (hkids.below u.h) (hkids'.below u.h))
            have a0 := fun u : After wr => u.cell c0 hbl
            have a1 := fun u : After wr => u.cell c1 hbl
            have a2 := fun u : After wr => u.cell c2 hbl
            have a3 := fun u : After wr => u.cell c3 hbl
            have g0 := fun u : After wr => u.cell d0 hbl'
            have g1 := fun u : After wr => u.cell d1 hbl'
            have g2 := fun u : After wr => u.cell d2 hbl'
            have g3 := fun u : After wr => u.cell d3 hbl'
            have r3 := fun u : After wr => u.cell p3 hzA
            have s3 := fun u : After wr => u.cell q3 hzB
            clear ih
            cases hev : eqX kd1 sy1 n1 kids kd2 sy2 n2 kids'
            · rw [hev] at hcall
              go_wp2
              have hany := after_any
              refine wp_region_after (by kernel_rfl) (by kernel_rfl) ?_
              repeat (go_big_quiet_step ((go_at_call 15; refine hcall _)))
              refine wpQuiet_nil ?_
              intro w1 hu
              have hbe : Below w0.heap.size w0 w1 := hb.trans ((after_of hu).mono hb.size)
              have hbe' : Below w.heap.size w w1 := hb0.trans (hbe.mono hb0.size)
              clear hu
              go_wp2
              go_ret
              exact ⟨ret_bool (by rw [eqX_same, hr.out, hst.out, hev]; rfl), hbe'⟩
            · rw [hev] at hcall
              go_wp2
              have hany := after_any
              refine wp_region_after (by kernel_rfl) (by kernel_rfl) ?_
              repeat (go_big_quiet_step ((go_at_call 15; refine hcall _)))
              refine wpQuiet_nil ?_
              intro w1 hu
              have hbe : Below w0.heap.size w0 w1 := hb.trans ((after_of hu).mono hb.size)
              have hbe' : Below w.heap.size w w1 := hb0.trans (hbe.mono hb0.size)
              clear hu
              go_wp2
              exact ⟨⟨k + 1, by omega, by go_num, by show _ = _; rw [hr.out, hst.out, hev]; rfl, hbe⟩, by simp [intOf]; omega⟩
          · clear ih
            go_wp2
            go_ret
            exact ⟨ret_bool (by rw [eqX_same, hr.out, eqF_end (by omega) (by have := H4.out; omega)]), hbw⟩
        · have hx : eqX kd sy n F kd sy n F' = false := by simp [eqX, eqF_len h4]
          rw [hx]
          have b4 : ((F.len : Int) != (F'.len : Int)) = true := by simp; omega
          clear hx ih h4
          go_enter Tryd.func15, Tryd.ntmps15
          go_wp2
          go_ret
          exact ⟨rfl, hb0⟩
      · have hx : eqX kd sy n F kd' sy' n' F' = false := by simp [eqX, h3]
        rw [hx]
        subst h1 h2
        have hne : (n != n') = true := by simpa using h3
        clear hx h3 ih
        go_enter Tryd.func15, Tryd.ntmps15
        go_wp2
        go_ret
        exact ⟨rfl, hb0⟩
    · have hx : eqX kd sy n F kd' sy' n' F' = false := by simp [eqX, h2]
      rw [hx]
      subst h1
      have hne : (sy != sy') = true := by simpa using h2
      clear hx h2 ih
      go_enter Tryd.func15, Tryd.ntmps15
      go_wp2
      go_ret
      exact ⟨rfl, hb0⟩
  · have hx : eqX kd sy n F kd' sy' n' F' = false := by simp [eqX, h1]
    rw [hx]
    have hne : (kd != kd') = true := by simpa using h1
    clear hx h1 ih
    go_enter Tryd.func15, Tryd.ntmps15
    go_wp2
    go_ret
    exact ⟨rfl, hb0⟩
end Go.Proofs.YtpokhhplgljmiaaDoor
