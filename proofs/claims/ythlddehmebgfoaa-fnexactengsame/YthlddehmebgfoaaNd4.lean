/- Graphs: the laws' copy of one, the laws' comparison of parts and graphs. -/
import Derived.Test.YthlddehmebgfoaaNd3
namespace Go.Proofs.Ythlddehmebgfoaa
open Go.ChangeShapes Go.WideShapes Go.ChangeAt Go.RowKit Go.Deep
set_option linter.unusedVariables false
set_option maxRecDepth 4000

/-- What the copy of a graph hands back. -/
def CopyG (w : World) (m : Int) (l : List Nd) (se nw : Int) (fu : Bool) (e : Ending) (w' : World) : Prop :=
  ∃ b, e = .returned (.agg (gC m (some ⟨b, 0, none⟩) l.length l.length se nw fu)) ∧ NdsHas w' w.heap.size b l ∧ Below w.heap.size w w'

set_option maxHeartbeats 4000000 in
theorem toGraph_any (m : Int) (a : Option Addr) (cap : Nat) (l : List Nd) (se nw : Int) (fu : Bool) (w : World) (h : Nds w a l) (hn : ndsSize l ≤ 1048576) :
    Calls Try.prog 42 #[.agg (gC m a l.length cap se nw fu)] w (CopyG w m l se nw fu) := by
  obtain ⟨A, hA⟩ : ∃ A, w.heap.size = A := ⟨_, rfl⟩
  obtain ⟨w0, hw0⟩ : ∃ w0, w.alloc (.cells (gC m a l.length cap se nw fu) 74) = w0 := ⟨_, rfl⟩
  have hA0 := bx_new w (gC m a l.length cap se nw fu) 74
  have b0 := oBelow_new w (.cells (gC m a l.length cap se nw fu) 74)
  have z0 : (w.alloc (.cells (gC m a l.length cap se nw fu) 74)).heap.size = w.heap.size + 1 := by simp
  rw [hw0] at hA0 b0 z0
  obtain ⟨R, hR⟩ : ∃ R, w0.heap.size = R := ⟨_, rfl⟩
  obtain ⟨v1, hv1⟩ : ∃ v1, w0.alloc (.cells #[.int .i64 0, .slice none 0 0, .int .i64 0, .int .i64 0, .bool false] 50) = v1 := ⟨_, rfl⟩
  have hR1 := ob_new w0 #[.int .i64 0, .slice none 0 0, .int .i64 0, .int .i64 0, .bool false] 50
  have b01 := oBelow_new w0 (.cells #[.int .i64 0, .slice none 0 0, .int .i64 0, .int .i64 0, .bool false] 50)
  have z1 : (w0.alloc (.cells #[.int .i64 0, .slice none 0 0, .int .i64 0, .int .i64 0, .bool false] 50)).heap.size = w0.heap.size + 1 := by simp
  rw [hv1] at hR1 b01 z1
  obtain ⟨B, hB⟩ : ∃ B, v1.heap.size = B := ⟨_, rfl⟩
  obtain ⟨u1, hu1⟩ : ∃ u1, v1.alloc (.cells #[.int .i64 0, .slice none 0 0, .int .i64 0, .int .i64 0, .bool false] 50) = u1 := ⟨_, rfl⟩
  have hB01 := ob_new v1 #[.int .i64 0, .slice none 0 0, .int .i64 0, .int .i64 0, .bool false] 50
  have b02 := oBelow_new v1 (.cells #[.int .i64 0, .slice none 0 0, .int .i64 0, .int .i64 0, .bool false] 50)
  have z2 : (v1.alloc (.cells #[.int .i64 0, .slice none 0 0, .int .i64 0, .int .i64 0, .bool false] 50)).heap.size = v1.heap.size + 1 := by simp
  rw [hu1] at hB01 b02 z2
  have b1 := (b0.trans (b01.mono b0.size)).trans (b02.mono (by omega))
  have hA01 := (hA0.below b01).below b02
  have hR01 := hR1.below b02
  rw [hA] at hA01
  rw [hR] at hR01
  rw [hB] at hB01
  have lAR : A < R := by omega
  have lRB : R < B := by omega
  clear z0 z1 z2 b0 b01 b02 hA0 hR1
  obtain ⟨w1, hw1⟩ : ∃ w1, u1.setCell ⟨B, 0, none⟩ (.int .i64 m) = w1 := ⟨_, rfl⟩
  have hA1 : Bx w1 A (gC m a l.length cap se nw fu) := by rw [← hw1]; exact hA01.other (by omega) _ _
  have hB1 : OB w1 B #[.int .i64 m, .slice none 0 0, .int .i64 0, .int .i64 0, .bool false] := by rw [← hw1]; exact hB01.set 0 _
  have hR1 : OB w1 R #[.int .i64 0, .slice none 0 0, .int .i64 0, .int .i64 0, .bool false] := by rw [← hw1]; exact hR01.other (by omega) _ _
  have b1 : Below w.heap.size w w1 := by rw [← hw1]; exact b1.setCell (by show _ ≤ B; omega) _
  have e1 : B + 1 ≤ w1.heap.size := by have := hB1.lt; omega
  have q01 := hA01.five.1
  have c01 := hB01.at 0
  have f01 := hB01.free
  obtain ⟨q0, q1, q2, q3, q4⟩ := hA1.five
  unfold gC at hw0 ⊢
  go_enter Try.func42, Try.ntmps42
  go_wp2_with fail
  refine (toNodeS_any _ _ l _ (h.below b1) hn).mono ?_
  rintro e w2 ⟨rfl, hN2, hb2⟩
  clear q0 q1 q2 q3 q4 q01 c01 f01 hw0 hv1 hu1 hw1
  obtain ⟨d, hd⟩ : ∃ d, w1.heap.size = d := ⟨_, rfl⟩
  have b2 := b1.trans (hb2.mono b1.size)
  have hR2 := hR1.below hb2
  have hB2 := hB1.below hb2
  have hA2 := hA1.below hb2
  rw [hd] at hN2 e1 ⊢
  obtain ⟨q0, q1, q2, q3, q4⟩ := hA2.five
  have hB3 : OB (w2.setCell ⟨B, 1, none⟩ (.slice (some ⟨d, 0, none⟩) l.length l.length)) B #[.int .i64 m, .slice (some ⟨d, 0, none⟩) l.length l.length, .int .i64 0, .int .i64 0, .bool false] := hB2.set 1 _
  have hA3 := hA2.other (b := B) (by omega) 1 (.slice (some ⟨d, 0, none⟩) l.length l.length)
  have hR3 := hR2.other (b := B) (by omega) 1 (.slice (some ⟨d, 0, none⟩) l.length l.length)
  obtain ⟨w3, hw3⟩ : ∃ w3, w2.setCell ⟨B, 1, none⟩ (.slice (some ⟨d, 0, none⟩) l.length l.length) = w3 := ⟨_, rfl⟩
  rw [hw3] at hB3 hA3 hR3
  have hB4 : OB (w3.setCell ⟨B, 2, none⟩ (.int .i64 se)) B #[.int .i64 m, .slice (some ⟨d, 0, none⟩) l.length l.length, .int .i64 se, .int .i64 0, .bool false] := hB3.set 2 _
  have hA4 := hA3.other (b := B) (by omega) 2 (.int .i64 se)
  have hR4 := hR3.other (b := B) (by omega) 2 (.int .i64 se)
  obtain ⟨w4, hw4⟩ : ∃ w4, w3.setCell ⟨B, 2, none⟩ (.int .i64 se) = w4 := ⟨_, rfl⟩
  rw [hw4] at hB4 hA4 hR4
  have hB5 : OB (w4.setCell ⟨B, 3, none⟩ (.int .i64 nw)) B #[.int .i64 m, .slice (some ⟨d, 0, none⟩) l.length l.length, .int .i64 se, .int .i64 nw, .bool false] := hB4.set 3 _
  have hA5 := hA4.other (b := B) (by omega) 3 (.int .i64 nw)
  have hR5 := hR4.other (b := B) (by omega) 3 (.int .i64 nw)
  obtain ⟨w5, hw5⟩ : ∃ w5, w4.setCell ⟨B, 3, none⟩ (.int .i64 nw) = w5 := ⟨_, rfl⟩
  rw [hw5] at hB5 hA5 hR5
  have hB6 : OB (w5.setCell ⟨B, 4, none⟩ (.bool fu)) B #[.int .i64 m, .slice (some ⟨d, 0, none⟩) l.length l.length, .int .i64 se, .int .i64 nw, .bool fu] := hB5.set 4 _
  have hR6 := hR5.other (b := B) (by omega) 4 (.bool fu)
  obtain ⟨w6, hw6⟩ : ∃ w6, w5.setCell ⟨B, 4, none⟩ (.bool fu) = w6 := ⟨_, rfl⟩
  rw [hw6] at hB6 hR6
  have b6 : Below w.heap.size w w6 := by
    rw [← hw6, ← hw5, ← hw4, ← hw3]
    exact (((b2.setCell (by show _ ≤ B; omega) _).setCell (by show _ ≤ B; omega) _).setCell (by show _ ≤ B; omega) _).setCell (by show _ ≤ B; omega) _
  have kk : Keeps d w2 w6 := by
    rw [← hw6, ← hw5, ← hw4, ← hw3]
    exact (((keeps_set (b := B) _ (by omega) _ _).trans (keeps_set (b := B) _ (by omega) _ _)).trans (keeps_set (b := B) _ (by omega) _ _)).trans (keeps_set (b := B) _ (by omega) _ _)
  have s1 := hA3.five.2.2.1
  have s2 := hA4.five.2.2.2.1
  have s3 := hA5.five.2.2.2.2
  have c1 := hB2.at 1
  have c2 := hB3.at 2
  have c3 := hB4.at 3
  have c4 := hB5.at 4
  have f1 := hB2.free
  have f2 := hB3.free
  have f3 := hB4.free
  have f4 := hB5.free
  have y0 := hB6.at 0
  have y1 := hB6.at 1
  have y2 := hB6.at 2
  have y3 := hB6.at 3
  have y4 := hB6.at 4
  have x0 := hR6.at 0
  have x1 := hR6.at 1
  have x2 := hR6.at 2
  have x3 := hR6.at 3
  have x4 := hR6.at 4
  have f6 := hR6.free
  go_wp2
  have hRz := ((((hR6.set 0 (.int .i64 m)).set 1 (.slice (some ⟨d, 0, none⟩) l.length l.length)).set 2 (.int .i64 se)).set 3 (.int .i64 nw)).set 4 (.bool fu)
  have kz : Keeps d w6 _ := ((((keeps_set (B := d) (b := R) w6 (by omega) 0 (.int .i64 m)).trans (keeps_set (B := d) (b := R) _ (by omega) 1 (.slice (some ⟨d, 0, none⟩) l.length l.length))).trans (keeps_set (B := d) (b := R) _ (by omega) 2 (.int .i64 se))).trans (keeps_set (B := d) (b := R) _ (by omega) 3 (.int .i64 nw))).trans (keeps_set (B := d) (b := R) _ (by omega) 4 (.bool fu))
  have bz := ((((b6.setCell (p := ⟨R, 0, none⟩) (by show _ ≤ R; omega) (.int .i64 m)).setCell (p := ⟨R, 1, none⟩) (by show _ ≤ R; omega) (.slice (some ⟨d, 0, none⟩) l.length l.length)).setCell (p := ⟨R, 2, none⟩) (by show _ ≤ R; omega) (.int .i64 se)).setCell (p := ⟨R, 3, none⟩) (by show _ ≤ R; omega) (.int .i64 nw)).setCell (p := ⟨R, 4, none⟩) (by show _ ≤ R; omega) (.bool fu)
  generalize (World.setCell _ ⟨R, 4, none⟩ (.bool fu)) = wz at hRz kz bz ⊢
  have r0 := hRz.at 0
  have r1 := hRz.at 1
  have r2 := hRz.at 2
  have r3 := hRz.at 3
  have r4 := hRz.at 4
  refine bodyPost_ret (v := .agg (gC m (some ⟨d, 0, none⟩) l.length l.length se nw fu)) (by simp [results, Try.results42, go_sem, gC, r0, r1, r2, r3, r4]) rfl ⟨d, rfl, ((hN2.keeps kk).keeps kz).low (by omega), bz⟩

def ndEqB (x y : Nd) : Bool := decide (x.kd = y.kd ∧ x.sy = y.sy ∧ x.nn = y.nn ∧ x.mn = y.mn) && intsEqB x.ks y.ks && pairEqB x.pl x.pr y.pl y.pr && spanEqB x.sl x.sm y.sl y.sm && occsEqB x.du y.du
theorem ndEqB_iff (x y : Nd) : ndEqB x y = true ↔ x = y := by
  cases x; cases y
  simp [ndEqB, pairEqB, spanEqB, intsEqB_iff, occsEqB_iff]
  grind
def ndsEqB : List Nd → List Nd → Bool
  | [], [] => true
  | x :: r, y :: s => ndEqB x y && ndsEqB r s
  | _, _ => false
theorem ndsEqB_iff : ∀ (a b : List Nd), ndsEqB a b = true ↔ a = b
  | [], [] => by simp [ndsEqB]
  | [], _ :: _ => by simp [ndsEqB]
  | _ :: _, [] => by simp [ndsEqB]
  | x :: r, y :: s => by simp [ndsEqB, ndEqB_iff, ndsEqB_iff r s]
theorem ndsEqB_self (a : List Nd) : ndsEqB a a = true := (ndsEqB_iff a a).2 rfl
theorem ndsEqB_len {a b : List Nd} (h : a.length ≠ b.length) : ndsEqB a b = false := by
  rw [Bool.eq_false_iff]; intro e; exact h (by rw [(ndsEqB_iff a b).1 e])
theorem ndsEqB_step {a b : List Nd} {k : Nat} (h : k < a.length) (h' : k < b.length) : ndsEqB (a.drop k) (b.drop k) = (ndEqB a[k] b[k] && ndsEqB (a.drop (k + 1)) (b.drop (k + 1))) := by
  rw [List.drop_eq_getElem_cons h, List.drop_eq_getElem_cons h']; rfl
theorem ndsEqB_end {a b : List Nd} {k : Nat} (h : ¬ k < a.length) (h' : a.length = b.length) : ndsEqB (a.drop k) (b.drop k) = true := by
  rw [List.drop_eq_nil_of_le (by omega), List.drop_eq_nil_of_le (by omega)]; rfl
def grEqB (m : Int) (l : List Nd) (se nw : Int) (fu : Bool) (m' : Int) (l' : List Nd) (se' nw' : Int) (fu' : Bool) : Bool := decide (m = m' ∧ se = se' ∧ nw = nw' ∧ fu = fu') && ndsEqB l l'
theorem grEqB_self (m : Int) (l : List Nd) (se nw : Int) (fu : Bool) : grEqB m l se nw fu m l se nw fu = true := by simp [grEqB, ndsEqB_self]
end Go.Proofs.Ythlddehmebgfoaa
