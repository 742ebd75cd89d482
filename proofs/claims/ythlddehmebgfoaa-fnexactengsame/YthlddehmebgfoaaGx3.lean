/- Rows of graphs and rows of what followed are compared by the laws. -/
import Derived.Test.YthlddehmebgfoaaGx2
import Derived.Test.YthlddehmebgfoaaNd5
import Derived.Test.YthlddehmebgfoaaOcc4
namespace Go.Proofs.Ythlddehmebgfoaa
open Go.ChangeShapes Go.WideShapes Go.ChangeAt Go.RowKit Go.Deep
set_option linter.unusedVariables false
set_option maxRecDepth 4000

def gxEqB (x y : Gx) : Bool := grEqB x.m x.l x.se x.nw x.fu y.m y.l y.se y.nw y.fu
theorem gxEqB_iff (x y : Gx) : gxEqB x y = true ↔ x = y := by
  cases x; cases y
  simp [gxEqB, grEqB, ndsEqB_iff]
  grind
def fxEqB (x y : Fx) : Bool := decide (x.ru = y.ru) && oEqB x.oc y.oc
theorem fxEqB_iff (x y : Fx) : fxEqB x y = true ↔ x = y := by
  cases x; cases y
  simp [fxEqB, oEqB_iff]

def gxsEqB : List Gx → List Gx → Bool
  | [], [] => true
  | x :: r, y :: s => gxEqB x y && gxsEqB r s
  | _, _ => false
theorem gxsEqB_iff : ∀ (a b : List Gx), gxsEqB a b = true ↔ a = b
  | [], [] => by simp [gxsEqB]
  | [], _ :: _ => by simp [gxsEqB]
  | _ :: _, [] => by simp [gxsEqB]
  | x :: r, y :: s => by simp [gxsEqB, gxEqB_iff, gxsEqB_iff r s]
theorem gxsEqB_self (a : List Gx) : gxsEqB a a = true := (gxsEqB_iff a a).2 rfl
theorem gxsEqB_len {a b : List Gx} (h : a.length ≠ b.length) : gxsEqB a b = false := by
  rw [Bool.eq_false_iff]; intro e; exact h (by rw [(gxsEqB_iff a b).1 e])
theorem gxsEqB_step {a b : List Gx} {k : Nat} (h : k < a.length) (h' : k < b.length) : gxsEqB (a.drop k) (b.drop k) = (gxEqB a[k] b[k] && gxsEqB (a.drop (k + 1)) (b.drop (k + 1))) := by
  rw [List.drop_eq_getElem_cons h, List.drop_eq_getElem_cons h']; rfl
theorem gxsEqB_end {a b : List Gx} {k : Nat} (h : ¬ k < a.length) (h' : a.length = b.length) : gxsEqB (a.drop k) (b.drop k) = true := by
  rw [List.drop_eq_nil_of_le (by omega), List.drop_eq_nil_of_le (by omega)]; rfl

def fxsEqB : List Fx → List Fx → Bool
  | [], [] => true
  | x :: r, y :: s => fxEqB x y && fxsEqB r s
  | _, _ => false
theorem fxsEqB_iff : ∀ (a b : List Fx), fxsEqB a b = true ↔ a = b
  | [], [] => by simp [fxsEqB]
  | [], _ :: _ => by simp [fxsEqB]
  | _ :: _, [] => by simp [fxsEqB]
  | x :: r, y :: s => by simp [fxsEqB, fxEqB_iff, fxsEqB_iff r s]
theorem fxsEqB_self (a : List Fx) : fxsEqB a a = true := (fxsEqB_iff a a).2 rfl
theorem fxsEqB_len {a b : List Fx} (h : a.length ≠ b.length) : fxsEqB a b = false := by
  rw [Bool.eq_false_iff]; intro e; exact h (by rw [(fxsEqB_iff a b).1 e])
theorem fxsEqB_step {a b : List Fx} {k : Nat} (h : k < a.length) (h' : k < b.length) : fxsEqB (a.drop k) (b.drop k) = (fxEqB a[k] b[k] && fxsEqB (a.drop (k + 1)) (b.drop (k + 1))) := by
  rw [List.drop_eq_getElem_cons h, List.drop_eq_getElem_cons h']; rfl
theorem fxsEqB_end {a b : List Fx} {k : Nat} (h : ¬ k < a.length) (h' : a.length = b.length) : fxsEqB (a.drop k) (b.drop k) = true := by
  rw [List.drop_eq_nil_of_le (by omega), List.drop_eq_nil_of_le (by omega)]; rfl

set_option maxHeartbeats 2000000 in
theorem eqGraphS_any (a a' : Option Addr) (cap cap' : Nat) (l l' : List Gx) (w : World) (h : Gxs w a l) (h' : Gxs w a' l') :
    Calls Try.prog 31 #[.slice a l.length cap, .slice a' l'.length cap'] w fun e w' => e = .returned (.bool (gxsEqB l l')) ∧ Below w.heap.size w w' := by
  have hn := h.len
  have hn' := h'.len
  unfold maxLen at hn hn'
  by_cases hne : l.length = l'.length
  · have hf : Hid (gxsEqB l l' = gxsEqB (l.drop 0) (l'.drop 0)) := rfl
    have hnb : ((l.length : Int) != (l'.length : Int)) = false := by simp [hne]
    have Hne : Hid (l.length = l'.length) := hne
    have hle : l.length ≤ l'.length := by omega
    clear hne
    go_enter Try.func31, Try.ntmps31
    go_wp2
    go_loopw [5] (fun i wr => ∃ k : Nat, k ≤ l.length ∧ i = .int .i64 k ∧ Hid (gxsEqB l l' = gxsEqB (l.drop k) (l'.drop k)) ∧ Below w.heap.size w wr) (fun i _ => l.length - (intOf i).toNat)
    case atStart => exact ⟨0, Nat.zero_le _, rfl, hf, Below.refl _ _⟩
    case round =>
      obtain ⟨k, hk, rfl, hr, hb⟩ := hrel
      by_cases hlt : k < l.length
      · obtain ⟨b, off, p, pc, rfl, hbl, hc, hids⟩ := (h.below hb).at hlt
        obtain ⟨b', off', p', pc', rfl, hbl', hd, hids'⟩ := (h'.below hb).at (k := k) (by omega)
        have hst : Hid (gxsEqB (l.drop k) (l'.drop k) = _) := gxsEqB_step hlt (show k < l'.length by omega)
        have hlt' : k < l'.length := by omega
        generalize l[k] = o at hc hids hst
        generalize l'[k] = o' at hd hids' hst
        obtain ⟨c0, c1, c2, c3, c4⟩ := hc
        obtain ⟨d0, d1, d2, d3, d4⟩ := hd
        have hcall := fun (u : After wr) => calls_after (u := u) (show Calls _ _ #[.agg (gC o.m p o.l.length pc o.se o.nw o.fu), .agg (gC o'.m p' o'.l.length pc' o'.se o'.nw o'.fu)] u.v (fun e w' => e = .returned (.bool (gxEqB o o')) ∧ Below u.v.heap.size u.v w') from eqGraph_any o.m p pc o.l o.se o.nw o.fu o'.m p' pc' o'.l o'.se o'.nw o'.fu u.v (hids.below u.h) (hids'.below u.h))
        unfold gC at hcall
        have a0 := fun u : After wr => u.cell c0 hbl
        have a1 := fun u : After wr => u.cell c1 hbl
        have a2 := fun u : After wr => u.cell c2 hbl
        have a3 := fun u : After wr => u.cell c3 hbl
        have a4 := fun u : After wr => u.cell c4 hbl
        have g0 := fun u : After wr => u.cell d0 hbl'
        have g1 := fun u : After wr => u.cell d1 hbl'
        have g2 := fun u : After wr => u.cell d2 hbl'
        have g3 := fun u : After wr => u.cell d3 hbl'
        have g4 := fun u : After wr => u.cell d4 hbl'
        cases hev : gxEqB o o'
        · rw [hev] at hcall
          go_wp2
          have hany := after_any
          refine wp_region_after (by kernel_rfl) (by kernel_rfl) ?_
          repeat (go_big_quiet_step ((go_at_call 52; refine hcall _)))
          refine wpQuiet_nil ?_
          intro w1 hu
          have hbe : Below w.heap.size w w1 := hb.trans ((after_of hu).mono hb.size)
          clear hu
          go_wp2
          go_ret
          exact ⟨ret_bool (by rw [hr.out, hst.out, hev]; rfl), hbe⟩
        · rw [hev] at hcall
          go_wp2
          have hany := after_any
          refine wp_region_after (by kernel_rfl) (by kernel_rfl) ?_
          repeat (go_big_quiet_step ((go_at_call 52; refine hcall _)))
          refine wpQuiet_nil ?_
          intro w1 hu
          have hbe : Below w.heap.size w w1 := hb.trans ((after_of hu).mono hb.size)
          clear hu
          go_wp2
          exact ⟨⟨k + 1, by omega, by go_num, by show _ = _; rw [hr.out, hst.out, hev]; rfl, hbe⟩, by simp [intOf]; omega⟩
      · go_wp2
        go_ret
        exact ⟨ret_bool (by rw [hr.out, gxsEqB_end hlt Hne.out]), hb⟩
  · rw [gxsEqB_len hne]
    have hnb : ((l.length : Int) != (l'.length : Int)) = true := by simp; omega
    go_enter Try.func31, Try.ntmps31
    go_wp2
    go_ret
    exact ⟨rfl, Below.refl _ _⟩

set_option maxHeartbeats 1000000 in
theorem eqFire_any (x y : Fx) (a a' : Option Addr) (c c' : Nat) (w : World) (h : Ints w a x.oc.ids) (h' : Ints w a' y.oc.ids) :
    Calls Try.prog 54 #[fxV x a c, fxV y a' c'] w fun e w' => e = .returned (.bool (fxEqB x y)) ∧ Below w.heap.size w w' := by
  obtain ⟨G, hG⟩ : ∃ G, fxEqB x y = G := ⟨_, rfl⟩
  rw [hG]
  have HG : Hid (fxEqB x y = G) := hG
  clear hG
  obtain ⟨w0, hw0⟩ : ∃ w0, w.alloc (.cells (fxC x a c) 62) = w0 := ⟨_, rfl⟩
  have hA0 := bx_new w (fxC x a c) 62
  have b0 := oBelow_new w (.cells (fxC x a c) 62)
  rw [hw0] at hA0 b0
  obtain ⟨w1, hw1⟩ : ∃ w1, w0.alloc (.cells (fxC y a' c') 62) = w1 := ⟨_, rfl⟩
  have hB0 := bx_new w0 (fxC y a' c') 62
  have b01 := oBelow_new w0 (.cells (fxC y a' c') 62)
  rw [hw1] at hB0 b01
  have hA1 := hA0.below b01
  have b1 := b0.trans (b01.mono b0.size)
  obtain ⟨A, hA⟩ : ∃ A, w.heap.size = A := ⟨_, rfl⟩
  obtain ⟨B, hB⟩ : ∃ B, w0.heap.size = B := ⟨_, rfl⟩
  rw [hA] at hA1
  rw [hB] at hB0
  have hi := h.below b1
  have hj := h'.below b1
  clear b0 b01 hA0
  obtain ⟨q0, q1, q2, q3⟩ := hA1.fourF
  obtain ⟨r0, r1, r2, r3⟩ := hB0.fourF
  simp only [Nat.zero_add] at q0 q1 q2 q3 r0 r1 r2 r3
  unfold fxV
  unfold fxC at hw0 hw1 ⊢
  by_cases h0 : x.ru = y.ru
  case neg =>
    have n0 : (x.ru != y.ru) = true := by simpa using h0
    have hf : fxEqB x y = false := by simp [fxEqB, h0]
    clear h0
    go_enter Try.func54, Try.ntmps54
    go_wp2
    go_ret
    exact ⟨ret_bool (by rw [← HG.out, hf]), b1⟩
  have n0 : (x.ru != y.ru) = false := by simpa using h0
  have hf : Hid (fxEqB x y = oEqB x.oc y.oc) := by show _ = _; simp [fxEqB, h0]
  clear h0
  go_enter Try.func54, Try.ntmps54
  go_wp2_with fail
  refine (eqOcc_any _ _ _ _ x.oc.ids _ _ _ _ y.oc.ids _ hi hj).mono ?_
  rintro e w2 ⟨rfl, hb2⟩
  cases hq : occEqB x.oc.fr x.oc.tl x.oc.ids y.oc.fr y.oc.tl y.oc.ids
  all_goals go_wp2
  all_goals go_ret
  all_goals exact ⟨ret_bool (by rw [← HG.out, hf.out]; exact hq.symm), b1.trans (hb2.mono b1.size)⟩

set_option maxHeartbeats 2000000 in
theorem eqFireS_any (a a' : Option Addr) (cap cap' : Nat) (l l' : List Fx) (w : World) (h : Fxs w a l) (h' : Fxs w a' l') :
    Calls Try.prog 34 #[.slice a l.length cap, .slice a' l'.length cap'] w fun e w' => e = .returned (.bool (fxsEqB l l')) ∧ Below w.heap.size w w' := by
  have hn := h.len
  have hn' := h'.len
  unfold maxLen at hn hn'
  by_cases hne : l.length = l'.length
  · have hf : Hid (fxsEqB l l' = fxsEqB (l.drop 0) (l'.drop 0)) := rfl
    have hnb : ((l.length : Int) != (l'.length : Int)) = false := by simp [hne]
    have Hne : Hid (l.length = l'.length) := hne
    have hle : l.length ≤ l'.length := by omega
    clear hne
    go_enter Try.func34, Try.ntmps34
    go_wp2
    go_loopw [5] (fun i wr => ∃ k : Nat, k ≤ l.length ∧ i = .int .i64 k ∧ Hid (fxsEqB l l' = fxsEqB (l.drop k) (l'.drop k)) ∧ Below w.heap.size w wr) (fun i _ => l.length - (intOf i).toNat)
    case atStart => exact ⟨0, Nat.zero_le _, rfl, hf, Below.refl _ _⟩
    case round =>
      obtain ⟨k, hk, rfl, hr, hb⟩ := hrel
      by_cases hlt : k < l.length
      · obtain ⟨b, off, p, pc, rfl, hbl, hc, hids⟩ := (h.below hb).at hlt
        obtain ⟨b', off', p', pc', rfl, hbl', hd, hids'⟩ := (h'.below hb).at (k := k) (by omega)
        have hst : Hid (fxsEqB (l.drop k) (l'.drop k) = _) := fxsEqB_step hlt (show k < l'.length by omega)
        have hlt' : k < l'.length := by omega
        generalize l[k] = o at hc hids hst
        generalize l'[k] = o' at hd hids' hst
        obtain ⟨c0, c1, c2, c3⟩ := hc
        obtain ⟨d0, d1, d2, d3⟩ := hd
        have hcall := fun (u : After wr) => calls_after (u := u) (eqFire_any o o' p p' pc pc' u.v (hids.below u.h) (hids'.below u.h))
        unfold fxV fxC at hcall
        have a0 := fun u : After wr => u.cell c0 hbl
        have a1 := fun u : After wr => u.cell c1 hbl
        have a2 := fun u : After wr => u.cell c2 hbl
        have a3 := fun u : After wr => u.cell c3 hbl
        have g0 := fun u : After wr => u.cell d0 hbl'
        have g1 := fun u : After wr => u.cell d1 hbl'
        have g2 := fun u : After wr => u.cell d2 hbl'
        have g3 := fun u : After wr => u.cell d3 hbl'
        cases hev : fxEqB o o'
        · rw [hev] at hcall
          go_wp2
          have hany := after_any
          refine wp_region_after (by kernel_rfl) (by kernel_rfl) ?_
          repeat (go_big_quiet_step ((go_at_call 54; refine hcall _)))
          refine wpQuiet_nil ?_
          intro w1 hu
          have hbe : Below w.heap.size w w1 := hb.trans ((after_of hu).mono hb.size)
          clear hu
          go_wp2
          go_ret
          exact ⟨ret_bool (by rw [hr.out, hst.out, hev]; rfl), hbe⟩
        · rw [hev] at hcall
          go_wp2
          have hany := after_any
          refine wp_region_after (by kernel_rfl) (by kernel_rfl) ?_
          repeat (go_big_quiet_step ((go_at_call 54; refine hcall _)))
          refine wpQuiet_nil ?_
          intro w1 hu
          have hbe : Below w.heap.size w w1 := hb.trans ((after_of hu).mono hb.size)
          clear hu
          go_wp2
          exact ⟨⟨k + 1, by omega, by go_num, by show _ = _; rw [hr.out, hst.out, hev]; rfl, hbe⟩, by simp [intOf]; omega⟩
      · go_wp2
        go_ret
        exact ⟨ret_bool (by rw [hr.out, fxsEqB_end hlt Hne.out]), hb⟩
  · rw [fxsEqB_len hne]
    have hnb : ((l.length : Int) != (l'.length : Int)) = true := by simp; omega
    go_enter Try.func34, Try.ntmps34
    go_wp2
    go_ret
    exact ⟨rfl, Below.refl _ _⟩
end Go.Proofs.Ythlddehmebgfoaa
