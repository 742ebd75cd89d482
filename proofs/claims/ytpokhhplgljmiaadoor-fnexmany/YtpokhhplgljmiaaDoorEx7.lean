/- What the specification's ExSyms answers. -/
import Derived.Test.YtpokhhplgljmiaaDoorEx6
import Derived.Test.YtpokhhplgljmiaaDoorInts
namespace Go.Proofs.YtpokhhplgljmiaaDoor
open Go.ChangeShapes Go.WideShapes Go.ChangeAt Go.RowKit
set_option linter.unusedVariables false

/-- One of a list names s. -/
def nameF (s : Int) : Fo → Bool
  | .nil => false
  | .cons kd sy _ k r => (if kd = 1 then decide (sy = s) else nameF s k) || nameF s r
def nameX (s kd sy : Int) (F : Fo) : Bool := if kd = 1 then decide (sy = s) else nameF s F
theorem nameF_step {s : Int} {F : Fo} {k : Nat} {kd sy n : Int} {kids : Fo} (h : F.drop k = .cons kd sy n kids (F.drop (k + 1))) : nameF s (F.drop k) = (nameX s kd sy kids || nameF s (F.drop (k + 1))) := by
  rw [h]; rfl
theorem nameF_end {s : Int} {F : Fo} {k : Nat} (h : F.len ≤ k) : nameF s (F.drop k) = false := by
  rw [Fo.drop_end k F h]; rfl

set_option maxHeartbeats 1000000 in
theorem specNames_any : ∀ (N : Nat) (F : Fo), F.size ≤ N → ∀ (kd sy n s : Int) (a : Option Addr) (cap : Nat) (w : World), Slc w a F →
    Calls Tryd.prog 25 #[.agg #[.int .i64 kd, .int .i64 sy, .int .i64 n, .slice a F.len cap], .int .i64 s] w fun e w' => e = .returned (.bool (nameX s kd sy F)) ∧ Below w.heap.size w w' := by
  intro N
  induction N using Nat.strongRecOn with
  | _ N ih =>
  intro F hN kd sy n s a cap w h
  have hn := h.len
  unfold maxLen at hn
  obtain ⟨x0, x1, x2, x3⟩ := box4 w (.int .i64 kd) (.int .i64 sy) (.int .i64 n) (.slice a F.len cap) 25
  have hb0 : Below w.heap.size w (w.alloc (.cells #[.int .i64 kd, .int .i64 sy, .int .i64 n, .slice a F.len cap] 25)) := (Below.refl _ _).alloc (Nat.le_refl _) _
  have hz0 : w.heap.size < (w.alloc (.cells #[.int .i64 kd, .int .i64 sy, .int .i64 n, .slice a F.len cap] 25)).heap.size := by simp
  obtain ⟨w0, hw0⟩ : ∃ w0, w.alloc (.cells #[.int .i64 kd, .int .i64 sy, .int .i64 n, .slice a F.len cap] 25) = w0 := ⟨_, rfl⟩
  rw [hw0] at x0 x1 x2 x3 hb0 hz0
  by_cases h1 : kd = 1
  · have b1 : (kd == 1) = true := by simpa using h1
    have hx : Hid (nameX s kd sy F = (sy == s)) := by show _ = _; simp only [nameX, h1, if_true]; rfl
    clear ih h1
    go_enter Tryd.func25, Tryd.ntmps25
    go_wp2
    go_ret
    exact ⟨ret_bool (by rw [hx.out]), hb0⟩
  · have b1 : (kd == 1) = false := by simpa using h1
    have hx : nameX s kd sy F = nameF s F := by simp only [nameX, h1, if_false]
    rw [hx]
    clear h1 hx
    go_enter Tryd.func25, Tryd.ntmps25
    go_wp2
    go_loopw [5] (fun i wr => ∃ k : Nat, k ≤ F.len ∧ i = .int .i64 k ∧ Hid (nameF s F = nameF s (F.drop k)) ∧ Below w0.heap.size w0 wr) (fun i _ => F.len - (intOf i).toNat)
    case atStart => exact ⟨0, Nat.zero_le _, rfl, by show _ = _; rw [Fo.drop_zero], Below.refl _ _⟩
    case round =>
      obtain ⟨k, hk, rfl, hr, hb⟩ := hrel
      have hbw : Below w.heap.size w wr := hb0.trans (hb.mono hb0.size)
      have z3 : wr.cell? ⟨w.heap.size, 3, none⟩ = some (.slice a F.len cap) := (hb.cell hz0).trans x3
      clear x0 x1 x2 x3 hw0
      by_cases hlt : k < F.len
      · obtain ⟨b, off, kd', sy', n', kids, p, cp, rfl, hbl, hdr, hsz, c0, c1, c2, c3, hkids⟩ := (h.below hbw).at hlt
        have hst : Hid (nameF s (F.drop k) = _) := nameF_step hdr
        clear hdr
        have hcall := ih kids.size (by omega) kids (Nat.le_refl _) kd' sy' n' s p cp wr hkids
        clear ih
        cases hev : nameX s kd' sy' kids
        · rw [hev] at hcall
          go_wp2_with fail
          refine hcall.mono ?_
          rintro e w2 ⟨rfl, hb2⟩
          go_wp2
          exact ⟨⟨k + 1, by omega, by go_num, by show _ = _; rw [hr.out, hst.out, hev]; rfl, hb.trans (hb2.mono hb.size)⟩, by simp [intOf]; omega⟩
        · rw [hev] at hcall
          go_wp2_with fail
          refine hcall.mono ?_
          rintro e w2 ⟨rfl, hb2⟩
          go_wp2
          go_ret
          exact ⟨ret_bool (by rw [hr.out, hst.out, hev]; rfl), hbw.trans (hb2.mono hbw.size)⟩
      · clear ih
        go_wp2
        go_ret
        exact ⟨ret_bool (by rw [hr.out, nameF_end (by omega)]), hbw⟩

theorem owns_below {w w' : World} {B : Nat} {e : TypeId} {z : Nat} {v : Value} {n : Nat} {xs : List Value} (h : w.ownsRow B e z v n xs) (hb : Below w.heap.size w w') : w'.ownsRow B e z v n xs :=
  h.kept (row := none) ⟨hb.os, hb.tape, hb.output, hb.size, fun i hi _ => hb.block i hi⟩ (by cases v.ownBlock <;> simp)

/-- What it names, up to k. -/
def symsTo (kd sy : Int) (F : Fo) (k : Nat) : List Int := ((List.range k).map Int.ofNat).filter fun s => nameX s kd sy F
def symsX (kd sy n : Int) (F : Fo) : List Int := if okX kd sy n F then symsTo kd sy F 5 else []
theorem symsTo_yes {kd sy : Int} {F : Fo} {k : Nat} (h : nameX k kd sy F = true) : symsTo kd sy F (k + 1) = symsTo kd sy F k ++ [(k : Int)] := by
  simp [symsTo, List.range_succ, h]
theorem symsTo_no {kd sy : Int} {F : Fo} {k : Nat} (h : nameX k kd sy F = false) : symsTo kd sy F (k + 1) = symsTo kd sy F k := by
  simp [symsTo, List.range_succ, h]
theorem symsTo_len (kd sy : Int) (F : Fo) (k : Nat) : (symsTo kd sy F k).length ≤ k := by
  have := List.length_filter_le (fun s => nameX s kd sy F) ((List.range k).map Int.ofNat)
  simpa [symsTo] using this

set_option maxRecDepth 4000 in
set_option maxHeartbeats 1000000 in
theorem specExSyms_any (kd sy n : Int) (a : Option Addr) (cap : Nat) (F : Fo) (w : World) (h : Slc w a F) (hs : F.size ≤ 1048576) :
    Calls Tryd.prog 13 #[.agg #[.int .i64 kd, .int .i64 sy, .int .i64 n, .slice a F.len cap]] w
      fun e w' => ∃ v, e = .returned v ∧ w'.ownsRow w.heap.size 3 1 v (symsX kd sy n F).length (intCells (symsX kd sy n F)) ∧ Below w.heap.size w w' := by
  obtain ⟨i0, hi, hz0', hz1, hz2⟩ := info_int_parts
  obtain ⟨x0, x1, x2, x3⟩ := box4 w (.int .i64 kd) (.int .i64 sy) (.int .i64 n) (.slice a F.len cap) 25
  have hb0 : Below w.heap.size w (w.alloc (.cells #[.int .i64 kd, .int .i64 sy, .int .i64 n, .slice a F.len cap] 25)) := (Below.refl _ _).alloc (Nat.le_refl _) _
  have hz0 : w.heap.size < (w.alloc (.cells #[.int .i64 kd, .int .i64 sy, .int .i64 n, .slice a F.len cap] 25)).heap.size := by simp
  obtain ⟨w0, hw0⟩ : ∃ w0, w.alloc (.cells #[.int .i64 kd, .int .i64 sy, .int .i64 n, .slice a F.len cap] 25) = w0 := ⟨_, rfl⟩
  rw [hw0] at x0 x1 x2 x3 hb0 hz0
  have hok := fun w' => specExOk_any kd sy n a cap F w'
  cases hf : okX kd sy n F
  · rw [hf] at hok
    have hx : symsX kd sy n F = [] := by simp [symsX, hf]
    rw [hx]
    go_enter Tryd.func13, Tryd.ntmps13
    go_wp2_with fail
    go_loopw [3, 4] (fun v i wr => i = .int .i64 0 ∧ wr.ownsRow w.heap.size 3 1 v 0 [] ∧ Below w0.heap.size w0 wr) (fun _ _ _ => 0)
    case atStart => exact ⟨rfl, World.ownsRow_made _ _ _ hb0.size (by simp [maxLen]) rfl, (Below.refl _ _).alloc (Nat.le_refl _) _⟩
    case round =>
      obtain ⟨rfl, hown, hb⟩ := hrel
      have hbw : Below w.heap.size w wr := hb0.trans (hb.mono hb0.size)
      have y0 := (hb.cell hz0).trans x0
      have y1 := (hb.cell hz0).trans x1
      have y2 := (hb.cell hz0).trans x2
      have y3 := (hb.cell hz0).trans x3
      go_wp2_with fail
      refine (hok _ (h.below hbw) hs).mono ?_
      rintro e w1 ⟨rfl, hb1⟩
      go_wp2
      go_ret
      exact ⟨_, rfl, owns_below hown hb1, hbw.trans (hb1.mono hbw.size)⟩
  · rw [hf] at hok
    have hx : symsX kd sy n F = symsTo kd sy F 5 := by simp [symsX, hf]
    rw [hx]
    clear hf hx
    go_enter Tryd.func13, Tryd.ntmps13
    go_wp2_with fail
    go_loopw [3, 4] (fun v i wr => ∃ k : Nat, k ≤ 5 ∧ i = .int .i64 k ∧ wr.ownsRow w0.heap.size 3 1 v (symsTo kd sy F k).length (intCells (symsTo kd sy F k)) ∧ Below w0.heap.size w0 wr) (fun _ i _ => 5 - (intOf i).toNat)
    case atStart => exact ⟨0, by omega, rfl, World.ownsRow_made _ _ _ (Nat.le_refl _) (by simp [maxLen]) rfl, (Below.refl _ _).alloc (Nat.le_refl _) _⟩
    case round =>
      obtain ⟨k, hk, rfl, hown, hb⟩ := hrel
      have hbw : Below w.heap.size w wr := hb0.trans (hb.mono hb0.size)
      have y0 := (hb.cell hz0).trans x0
      have y1 := (hb.cell hz0).trans x1
      have y2 := (hb.cell hz0).trans x2
      have y3 := (hb.cell hz0).trans x3
      have hzr : w.heap.size < wr.heap.size := Nat.lt_of_lt_of_le hz0 hb.size
      by_cases hlt : k < 5
      · have hnm := fun w' => specNames_any F.size F (Nat.le_refl _) kd sy n k a cap w'
        have hlen := symsTo_len kd sy F k
        go_wp2_with fail
        refine (hok _ (h.below hbw) hs).mono ?_
        rintro e w1 ⟨rfl, hb1⟩
        have z0 := (hb1.cell hzr).trans y0
        have z1 := (hb1.cell hzr).trans y1
        have z2 := (hb1.cell hzr).trans y2
        have z3 := (hb1.cell hzr).trans y3
        have hbw1 := hbw.trans (hb1.mono hbw.size)
        have hown1 := owns_below hown hb1
        have hb01 := hb.trans (hb1.mono hb.size)
        cases hev : nameX k kd sy F
        · rw [hev] at hnm
          have hy := symsTo_no hev
          go_wp2_with fail
          refine (hnm _ (h.below hbw1)).mono ?_
          rintro e w2 ⟨rfl, hb2⟩
          go_wp2
          refine ⟨⟨k + 1, by omega, by go_num, ?_, hb01.trans (hb2.mono hb01.size)⟩, by simp [intOf]; omega⟩
          rw [hy]; exact owns_below hown1 hb2
        · rw [hev] at hnm
          have hy := symsTo_yes hev
          go_wp2_with fail
          refine (hnm _ (h.below hbw1)).mono ?_
          rintro e w2 ⟨rfl, hb2⟩
          have hown2 := owns_below hown1 hb2
          have hbw2 := hbw1.trans (hb2.mono hbw1.size)
          have hb02 := hb01.trans (hb2.mono hb01.size)
          go_wp2_with (at_builtin; refine wpList_append_own _ rfl _ _ 29 rfl w0.heap.size 3 i0 (.int .i64 0) 1 8 Tryd.underlying29 hi hz0' hz1 hz2 rfl (by decide) _ _ _ rfl (hown2.alloc _) ⟨w2.heap.size, 0, none⟩ 1 1 [.int .i64 k] rfl rfl ?c1 ?c2 ?c3 ?c4 ?c5 ?_)
          case c1 => exact new_int w2 k 3
          case c2 => intro u hu; simp at hu; subst hu; rfl
          case c3 => unfold maxLen; omega
          case c4 => omega
          case c5 => have := hb02.size; simp; omega
          intro v' w3 hown' hgr _
          have hbe : Below w0.heap.size w0 w3 := (hb02.alloc hb02.size _).grown hgr (by have := hb02.size; simp; omega) (fun x hx => (hown2.lt x hx).1)
          go_wp2
          refine ⟨⟨k + 1, by omega, by go_num, ?_, hbe⟩, by simp [intOf]; omega⟩
          rw [hy, intCells_snoc, List.length_append]
          exact hown'
      · obtain rfl : k = 5 := by omega
        go_wp2
        go_ret
        exact ⟨_, rfl, Go.Joins.ownsRow_le hown hb0.size, hbw⟩
end Go.Proofs.YtpokhhplgljmiaaDoor
