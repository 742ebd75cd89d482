/- Rules are copied by the laws: what is looked for in rows of the call's own. -/
import Derived.Test.YthlddehmebgfoaaRu1
import Derived.Test.YthlddehmebgfoaaEx4
namespace Go.Proofs.Ythlddehmebgfoaa
open Go.ChangeShapes Go.WideShapes Go.ChangeAt Go.RowKit Go.Deep
set_option linter.unusedVariables false
set_option maxRecDepth 4000

theorem RowOwn.keeps {w w' : World} {B b : Nat} {S : List Nat} {F : Fo} (h : RowOwn w B b S F) (k : Keeps B w w') : RowOwn w' B b S F :=
  h.of_blocks fun x hx => k.2 x (h.ge x hx) (h.lt x hx)

/-- What the copy of a rule hands back. -/
def CopyR (w : World) (x : Ru) (e : Ending) (w' : World) : Prop := ∃ b S, e = .returned (ruV x (some ⟨b, 0, none⟩) x.ks.len) ∧ RowOwn w' w.heap.size b S x.ks ∧ Below w.heap.size w w'

set_option maxHeartbeats 4000000 in
theorem toRule_any (x : Ru) (a : Option Addr) (c : Nat) (w : World) (h : RuIn w a x) (hn : x.ks.size ≤ 1048576) :
    Calls Try.prog 41 #[ruV x a c] w (CopyR w x) := by
  obtain ⟨A, hA⟩ : ∃ A, w.heap.size = A := ⟨_, rfl⟩
  obtain ⟨w0, hw0⟩ : ∃ w0, w.alloc (.cells (ruC x a c) 70) = w0 := ⟨_, rfl⟩
  have hA0 := bx_new w (ruC x a c) 70
  have b0 := xBelow_new w (.cells (ruC x a c) 70)
  have z0 : (w.alloc (.cells (ruC x a c) 70)).heap.size = w.heap.size + 1 := by simp
  rw [hw0] at hA0 b0 z0
  obtain ⟨R, hR⟩ : ∃ R, w0.heap.size = R := ⟨_, rfl⟩
  obtain ⟨v1, hv1⟩ : ∃ v1, w0.alloc (.cells #[.string { data := #[] }, .int .i64 0, .int .i64 0, .int .i64 0, .int .i64 0, .int .i64 0, .slice none 0 0, .int .i64 0, .int .i64 0, .int .i64 0, .int .i64 0, .int .i64 0] 84) = v1 := ⟨_, rfl⟩
  have hR1 := ob_new w0 #[.string { data := #[] }, .int .i64 0, .int .i64 0, .int .i64 0, .int .i64 0, .int .i64 0, .slice none 0 0, .int .i64 0, .int .i64 0, .int .i64 0, .int .i64 0, .int .i64 0] 84
  have b01 := xBelow_new w0 (.cells #[.string { data := #[] }, .int .i64 0, .int .i64 0, .int .i64 0, .int .i64 0, .int .i64 0, .slice none 0 0, .int .i64 0, .int .i64 0, .int .i64 0, .int .i64 0, .int .i64 0] 84)
  have z1 : (w0.alloc (.cells #[.string { data := #[] }, .int .i64 0, .int .i64 0, .int .i64 0, .int .i64 0, .int .i64 0, .slice none 0 0, .int .i64 0, .int .i64 0, .int .i64 0, .int .i64 0, .int .i64 0] 84)).heap.size = w0.heap.size + 1 := by simp
  rw [hv1] at hR1 b01 z1
  obtain ⟨B, hB⟩ : ∃ B, v1.heap.size = B := ⟨_, rfl⟩
  obtain ⟨u1, hu1⟩ : ∃ u1, v1.alloc (.cells #[.string { data := #[] }, .int .i64 0, .int .i64 0, .int .i64 0, .int .i64 0, .int .i64 0, .slice none 0 0, .int .i64 0, .int .i64 0, .int .i64 0, .int .i64 0, .int .i64 0] 84) = u1 := ⟨_, rfl⟩
  have hB01 := ob_new v1 #[.string { data := #[] }, .int .i64 0, .int .i64 0, .int .i64 0, .int .i64 0, .int .i64 0, .slice none 0 0, .int .i64 0, .int .i64 0, .int .i64 0, .int .i64 0, .int .i64 0] 84
  have b02 := xBelow_new v1 (.cells #[.string { data := #[] }, .int .i64 0, .int .i64 0, .int .i64 0, .int .i64 0, .int .i64 0, .slice none 0 0, .int .i64 0, .int .i64 0, .int .i64 0, .int .i64 0, .int .i64 0] 84)
  have z2 : (v1.alloc (.cells #[.string { data := #[] }, .int .i64 0, .int .i64 0, .int .i64 0, .int .i64 0, .int .i64 0, .slice none 0 0, .int .i64 0, .int .i64 0, .int .i64 0, .int .i64 0, .int .i64 0] 84)).heap.size = v1.heap.size + 1 := by simp
  rw [hu1] at hB01 b02 z2
  have bu1 := (b0.trans (b01.mono b0.size)).trans (b02.mono (by omega))
  have hA01 := (hA0.below b01).below b02
  have hR01 := hR1.below b02
  rw [hA] at hA01
  rw [hR] at hR01
  rw [hB] at hB01
  have lAR : A < R := by omega
  have lRB : R < B := by omega
  have lBu : B + 1 ≤ u1.heap.size := by omega
  clear z0 z1 z2 b0 b01 b02 hA0 hR1
  obtain ⟨u2, hu2⟩ : ∃ u2, u1.setCell ⟨B, 0, none⟩ (.string x.nm) = u2 := ⟨_, rfl⟩
  obtain ⟨u3, hu3⟩ : ∃ u3, u2.setCell ⟨B, 1, none⟩ (.int .i64 x.pri) = u3 := ⟨_, rfl⟩
  obtain ⟨w1, hw1⟩ : ∃ w1, u3.setCell ⟨B, 2, none⟩ (.int .i64 x.mode) = w1 := ⟨_, rfl⟩
  have hA02 : Bx u2 A (ruC x a c) := by rw [← hu2]; exact hA01.other (by omega) _ _
  have hB02 : OB u2 B #[.string x.nm, .int .i64 0, .int .i64 0, .int .i64 0, .int .i64 0, .int .i64 0, .slice none 0 0, .int .i64 0, .int .i64 0, .int .i64 0, .int .i64 0, .int .i64 0] := by rw [← hu2]; exact hB01.set 0 _
  have hR02 : OB u2 R #[.string { data := #[] }, .int .i64 0, .int .i64 0, .int .i64 0, .int .i64 0, .int .i64 0, .slice none 0 0, .int .i64 0, .int .i64 0, .int .i64 0, .int .i64 0, .int .i64 0] := by rw [← hu2]; exact hR01.other (by omega) _ _
  have hA03 : Bx u3 A (ruC x a c) := by rw [← hu3]; exact hA02.other (by omega) _ _
  have hB03 : OB u3 B #[.string x.nm, .int .i64 x.pri, .int .i64 0, .int .i64 0, .int .i64 0, .int .i64 0, .slice none 0 0, .int .i64 0, .int .i64 0, .int .i64 0, .int .i64 0, .int .i64 0] := by rw [← hu3]; exact hB02.set 1 _
  have hR03 : OB u3 R #[.string { data := #[] }, .int .i64 0, .int .i64 0, .int .i64 0, .int .i64 0, .int .i64 0, .slice none 0 0, .int .i64 0, .int .i64 0, .int .i64 0, .int .i64 0, .int .i64 0] := by rw [← hu3]; exact hR02.other (by omega) _ _
  have hA04 : Bx w1 A (ruC x a c) := by rw [← hw1]; exact hA03.other (by omega) _ _
  have hB04 : OB w1 B #[.string x.nm, .int .i64 x.pri, .int .i64 x.mode, .int .i64 0, .int .i64 0, .int .i64 0, .slice none 0 0, .int .i64 0, .int .i64 0, .int .i64 0, .int .i64 0, .int .i64 0] := by rw [← hw1]; exact hB03.set 2 _
  have hR04 : OB w1 R #[.string { data := #[] }, .int .i64 0, .int .i64 0, .int .i64 0, .int .i64 0, .int .i64 0, .slice none 0 0, .int .i64 0, .int .i64 0, .int .i64 0, .int .i64 0, .int .i64 0] := by rw [← hw1]; exact hR03.other (by omega) _ _
  have b1 : Below w.heap.size w w1 := by rw [← hw1, ← hu3, ← hu2]; exact ((bu1.setCell (by show _ ≤ B; omega) _).setCell (by show _ ≤ B; omega) _).setCell (by show _ ≤ B; omega) _
  have e1 : B + 1 ≤ w1.heap.size := by have := hB04.lt; omega
  have q01 : u1.cell? ⟨A, 0, none⟩ = some (.string x.nm) := hA01.cell 0 rfl
  have c01 := hB01.at 0
  have f01 := hB01.free
  have q02 : u2.cell? ⟨A, 1, none⟩ = some (.int .i64 x.pri) := hA02.cell 1 rfl
  have c02 := hB02.at 1
  have f02 := hB02.free
  have q03 : u3.cell? ⟨A, 2, none⟩ = some (.int .i64 x.mode) := hA03.cell 2 rfl
  have c03 := hB03.at 2
  have f03 := hB03.free
  have hi1 := h.below b1
  obtain ⟨q0, q1, q2, q3, q4, q5, q6, q7, q8, q9, q10, q11⟩ := hA04.twelve
  simp only [Nat.zero_add] at q0 q1 q2 q3 q4 q5 q6 q7 q8 q9 q10 q11
  unfold ruV
  unfold ruC at hw0 ⊢
  go_enter Try.func41, Try.ntmps41
  go_wp2_with fail
  refine (toEx_any x.kd x.sy x.n a c x.ks _ hi1.ks hn).mono ?_
  rintro e w2 ⟨d, S, rfl, hr2, hb2⟩
  clear q0 q1 q2 q3 q4 q5 q6 q7 q8 q9 q10 q11 hw0 hv1 hu1 hu2 hu3 hw1 q01 q02 q03 c01 c02 c03 f01 f02 f03
  have b2 := b1.trans (hb2.mono b1.size)
  have hA2 := hA04.below hb2
  have hB2 := hB04.below hb2
  have hR2 := hR04.below hb2
  have hr2 := hr2.low e1
  have c3 := hB2.at 3
  have c4 := hB2.at 4
  have c5 := hB2.at 5
  have c6 := hB2.at 6
  have f2 := hB2.free
  obtain ⟨w3, hw3⟩ : ∃ w3, (((w2.setCell ⟨B, 3, none⟩ (.int .i64 x.kd)).setCell ⟨B, 4, none⟩ (.int .i64 x.sy)).setCell ⟨B, 5, none⟩ (.int .i64 x.n)).setCell ⟨B, 6, none⟩ (.slice (some ⟨d, 0, none⟩) x.ks.len x.ks.len) = w3 := ⟨_, rfl⟩
  have hB3 : OB w3 B #[.string x.nm, .int .i64 x.pri, .int .i64 x.mode, .int .i64 x.kd, .int .i64 x.sy, .int .i64 x.n, .slice (some ⟨d, 0, none⟩) x.ks.len x.ks.len, .int .i64 0, .int .i64 0, .int .i64 0, .int .i64 0, .int .i64 0] := by rw [← hw3]; exact (((hB2.set 3 _).set 4 _).set 5 _).set 6 _
  have hA3 : Bx w3 A (ruC x a c) := by rw [← hw3]; exact (((hA2.other (by omega) _ _).other (by omega) _ _).other (by omega) _ _).other (by omega) _ _
  have hR3 : OB w3 R #[.string { data := #[] }, .int .i64 0, .int .i64 0, .int .i64 0, .int .i64 0, .int .i64 0, .slice none 0 0, .int .i64 0, .int .i64 0, .int .i64 0, .int .i64 0, .int .i64 0] := by rw [← hw3]; exact (((hR2.other (by omega) _ _).other (by omega) _ _).other (by omega) _ _).other (by omega) _ _
  have kk3 : Keeps (B + 1) w2 w3 := by rw [← hw3]; exact (((keeps_set _ (by omega) _ _).trans (keeps_set _ (by omega) _ _)).trans (keeps_set _ (by omega) _ _)).trans (keeps_set _ (by omega) _ _)
  have b3 : Below w.heap.size w w3 := by rw [← hw3]; exact (((b2.setCell (by show _ ≤ B; omega) _).setCell (by show _ ≤ B; omega) _).setCell (by show _ ≤ B; omega) _).setCell (by show _ ≤ B; omega) _
  have r3 := hr2.keeps kk3
  obtain ⟨w4, hw4⟩ : ∃ w4, w3.setCell ⟨B, 7, none⟩ (.int .i64 x.lo) = w4 := ⟨_, rfl⟩
  have hB4 : OB w4 B #[.string x.nm, .int .i64 x.pri, .int .i64 x.mode, .int .i64 x.kd, .int .i64 x.sy, .int .i64 x.n, .slice (some ⟨d, 0, none⟩) x.ks.len x.ks.len, .int .i64 x.lo, .int .i64 0, .int .i64 0, .int .i64 0, .int .i64 0] := by rw [← hw4]; exact hB3.set 7 _
  have hA4 : Bx w4 A (ruC x a c) := by rw [← hw4]; exact hA3.other (by omega) _ _
  have hR4 : OB w4 R #[.string { data := #[] }, .int .i64 0, .int .i64 0, .int .i64 0, .int .i64 0, .int .i64 0, .slice none 0 0, .int .i64 0, .int .i64 0, .int .i64 0, .int .i64 0, .int .i64 0] := by rw [← hw4]; exact hR3.other (by omega) _ _
  have kk4 : Keeps (B + 1) w3 w4 := by rw [← hw4]; exact keeps_set _ (by omega) _ _
  have b4 : Below w.heap.size w w4 := by rw [← hw4]; exact b3.setCell (by show _ ≤ B; omega) _
  have r4 := r3.keeps kk4
  have s7 : w3.cell? ⟨A, 7, none⟩ = some (.int .i64 x.lo) := hA3.cell 7 rfl
  have t7 := hB3.at 7
  have g7 := hB3.free
  obtain ⟨w5, hw5⟩ : ∃ w5, w4.setCell ⟨B, 8, none⟩ (.int .i64 x.hi) = w5 := ⟨_, rfl⟩
  have hB5 : OB w5 B #[.string x.nm, .int .i64 x.pri, .int .i64 x.mode, .int .i64 x.kd, .int .i64 x.sy, .int .i64 x.n, .slice (some ⟨d, 0, none⟩) x.ks.len x.ks.len, .int .i64 x.lo, .int .i64 x.hi, .int .i64 0, .int .i64 0, .int .i64 0] := by rw [← hw5]; exact hB4.set 8 _
  have hA5 : Bx w5 A (ruC x a c) := by rw [← hw5]; exact hA4.other (by omega) _ _
  have hR5 : OB w5 R #[.string { data := #[] }, .int .i64 0, .int .i64 0, .int .i64 0, .int .i64 0, .int .i64 0, .slice none 0 0, .int .i64 0, .int .i64 0, .int .i64 0, .int .i64 0, .int .i64 0] := by rw [← hw5]; exact hR4.other (by omega) _ _
  have kk5 : Keeps (B + 1) w4 w5 := by rw [← hw5]; exact keeps_set _ (by omega) _ _
  have b5 : Below w.heap.size w w5 := by rw [← hw5]; exact b4.setCell (by show _ ≤ B; omega) _
  have r5 := r4.keeps kk5
  have s8 : w4.cell? ⟨A, 8, none⟩ = some (.int .i64 x.hi) := hA4.cell 8 rfl
  have t8 := hB4.at 8
  have g8 := hB4.free
  obtain ⟨w6, hw6⟩ : ∃ w6, w5.setCell ⟨B, 9, none⟩ (.int .i64 x.key) = w6 := ⟨_, rfl⟩
  have hB6 : OB w6 B #[.string x.nm, .int .i64 x.pri, .int .i64 x.mode, .int .i64 x.kd, .int .i64 x.sy, .int .i64 x.n, .slice (some ⟨d, 0, none⟩) x.ks.len x.ks.len, .int .i64 x.lo, .int .i64 x.hi, .int .i64 x.key, .int .i64 0, .int .i64 0] := by rw [← hw6]; exact hB5.set 9 _
  have hA6 : Bx w6 A (ruC x a c) := by rw [← hw6]; exact hA5.other (by omega) _ _
  have hR6 : OB w6 R #[.string { data := #[] }, .int .i64 0, .int .i64 0, .int .i64 0, .int .i64 0, .int .i64 0, .slice none 0 0, .int .i64 0, .int .i64 0, .int .i64 0, .int .i64 0, .int .i64 0] := by rw [← hw6]; exact hR5.other (by omega) _ _
  have kk6 : Keeps (B + 1) w5 w6 := by rw [← hw6]; exact keeps_set _ (by omega) _ _
  have b6 : Below w.heap.size w w6 := by rw [← hw6]; exact b5.setCell (by show _ ≤ B; omega) _
  have r6 := r5.keeps kk6
  have s9 : w5.cell? ⟨A, 9, none⟩ = some (.int .i64 x.key) := hA5.cell 9 rfl
  have t9 := hB5.at 9
  have g9 := hB5.free
  obtain ⟨w7, hw7⟩ : ∃ w7, w6.setCell ⟨B, 10, none⟩ (.int .i64 x.add) = w7 := ⟨_, rfl⟩
  have hB7 : OB w7 B #[.string x.nm, .int .i64 x.pri, .int .i64 x.mode, .int .i64 x.kd, .int .i64 x.sy, .int .i64 x.n, .slice (some ⟨d, 0, none⟩) x.ks.len x.ks.len, .int .i64 x.lo, .int .i64 x.hi, .int .i64 x.key, .int .i64 x.add, .int .i64 0] := by rw [← hw7]; exact hB6.set 10 _
  have hA7 : Bx w7 A (ruC x a c) := by rw [← hw7]; exact hA6.other (by omega) _ _
  have hR7 : OB w7 R #[.string { data := #[] }, .int .i64 0, .int .i64 0, .int .i64 0, .int .i64 0, .int .i64 0, .slice none 0 0, .int .i64 0, .int .i64 0, .int .i64 0, .int .i64 0, .int .i64 0] := by rw [← hw7]; exact hR6.other (by omega) _ _
  have kk7 : Keeps (B + 1) w6 w7 := by rw [← hw7]; exact keeps_set _ (by omega) _ _
  have b7 : Below w.heap.size w w7 := by rw [← hw7]; exact b6.setCell (by show _ ≤ B; omega) _
  have r7 := r6.keeps kk7
  have s10 : w6.cell? ⟨A, 10, none⟩ = some (.int .i64 x.add) := hA6.cell 10 rfl
  have t10 := hB6.at 10
  have g10 := hB6.free
  obtain ⟨w8, hw8⟩ : ∃ w8, w7.setCell ⟨B, 11, none⟩ (.int .i64 x.ra) = w8 := ⟨_, rfl⟩
  have hB8 : OB w8 B #[.string x.nm, .int .i64 x.pri, .int .i64 x.mode, .int .i64 x.kd, .int .i64 x.sy, .int .i64 x.n, .slice (some ⟨d, 0, none⟩) x.ks.len x.ks.len, .int .i64 x.lo, .int .i64 x.hi, .int .i64 x.key, .int .i64 x.add, .int .i64 x.ra] := by rw [← hw8]; exact hB7.set 11 _
  have hA8 : Bx w8 A (ruC x a c) := by rw [← hw8]; exact hA7.other (by omega) _ _
  have hR8 : OB w8 R #[.string { data := #[] }, .int .i64 0, .int .i64 0, .int .i64 0, .int .i64 0, .int .i64 0, .slice none 0 0, .int .i64 0, .int .i64 0, .int .i64 0, .int .i64 0, .int .i64 0] := by rw [← hw8]; exact hR7.other (by omega) _ _
  have kk8 : Keeps (B + 1) w7 w8 := by rw [← hw8]; exact keeps_set _ (by omega) _ _
  have b8 : Below w.heap.size w w8 := by rw [← hw8]; exact b7.setCell (by show _ ≤ B; omega) _
  have r8 := r7.keeps kk8
  have s11 : w7.cell? ⟨A, 11, none⟩ = some (.int .i64 x.ra) := hA7.cell 11 rfl
  have t11 := hB7.at 11
  have g11 := hB7.free
  have y0 := hB8.at 0
  have y1 := hB8.at 1
  have y2 := hB8.at 2
  have y3 := hB8.at 3
  have y4 := hB8.at 4
  have y5 := hB8.at 5
  have y6 := hB8.at 6
  have y7 := hB8.at 7
  have y8 := hB8.at 8
  have y9 := hB8.at 9
  have y10 := hB8.at 10
  have y11 := hB8.at 11
  have x0 := hR8.at 0
  have x1 := hR8.at 1
  have x2 := hR8.at 2
  have x3 := hR8.at 3
  have x4 := hR8.at 4
  have x5 := hR8.at 5
  have x6 := hR8.at 6
  have x7 := hR8.at 7
  have x8 := hR8.at 8
  have x9 := hR8.at 9
  have x10 := hR8.at 10
  have x11 := hR8.at 11
  have f8 := hR8.free
  go_wp2
  have hRz := (((((((((((hR8.set 0 (.string x.nm)).set 1 (.int .i64 x.pri)).set 2 (.int .i64 x.mode)).set 3 (.int .i64 x.kd)).set 4 (.int .i64 x.sy)).set 5 (.int .i64 x.n)).set 6 (.slice (some ⟨d, 0, none⟩) x.ks.len x.ks.len)).set 7 (.int .i64 x.lo)).set 8 (.int .i64 x.hi)).set 9 (.int .i64 x.key)).set 10 (.int .i64 x.add)).set 11 (.int .i64 x.ra)
  have kz : Keeps (B + 1) w8 _ := (((((((((((keeps_set (B := B + 1) (b := R) w8 (by omega) 0 (.string x.nm)).trans (keeps_set (B := B + 1) (b := R) _ (by omega) 1 (.int .i64 x.pri))).trans (keeps_set (B := B + 1) (b := R) _ (by omega) 2 (.int .i64 x.mode))).trans (keeps_set (B := B + 1) (b := R) _ (by omega) 3 (.int .i64 x.kd))).trans (keeps_set (B := B + 1) (b := R) _ (by omega) 4 (.int .i64 x.sy))).trans (keeps_set (B := B + 1) (b := R) _ (by omega) 5 (.int .i64 x.n))).trans (keeps_set (B := B + 1) (b := R) _ (by omega) 6 (.slice (some ⟨d, 0, none⟩) x.ks.len x.ks.len))).trans (keeps_set (B := B + 1) (b := R) _ (by omega) 7 (.int .i64 x.lo))).trans (keeps_set (B := B + 1) (b := R) _ (by omega) 8 (.int .i64 x.hi))).trans (keeps_set (B := B + 1) (b := R) _ (by omega) 9 (.int .i64 x.key))).trans (keeps_set (B := B + 1) (b := R) _ (by omega) 10 (.int .i64 x.add))).trans (keeps_set (B := B + 1) (b := R) _ (by omega) 11 (.int .i64 x.ra))
  have bz := (((((((((((b8.setCell (p := ⟨R, 0, none⟩) (by show _ ≤ R; omega) (.string x.nm)).setCell (p := ⟨R, 1, none⟩) (by show _ ≤ R; omega) (.int .i64 x.pri)).setCell (p := ⟨R, 2, none⟩) (by show _ ≤ R; omega) (.int .i64 x.mode)).setCell (p := ⟨R, 3, none⟩) (by show _ ≤ R; omega) (.int .i64 x.kd)).setCell (p := ⟨R, 4, none⟩) (by show _ ≤ R; omega) (.int .i64 x.sy)).setCell (p := ⟨R, 5, none⟩) (by show _ ≤ R; omega) (.int .i64 x.n)).setCell (p := ⟨R, 6, none⟩) (by show _ ≤ R; omega) (.slice (some ⟨d, 0, none⟩) x.ks.len x.ks.len)).setCell (p := ⟨R, 7, none⟩) (by show _ ≤ R; omega) (.int .i64 x.lo)).setCell (p := ⟨R, 8, none⟩) (by show _ ≤ R; omega) (.int .i64 x.hi)).setCell (p := ⟨R, 9, none⟩) (by show _ ≤ R; omega) (.int .i64 x.key)).setCell (p := ⟨R, 10, none⟩) (by show _ ≤ R; omega) (.int .i64 x.add)).setCell (p := ⟨R, 11, none⟩) (by show _ ≤ R; omega) (.int .i64 x.ra)
  generalize (World.setCell _ ⟨R, 11, none⟩ (.int .i64 x.ra)) = wz at hRz kz bz ⊢
  have r0_ := hRz.at 0
  have r1_ := hRz.at 1
  have r2_ := hRz.at 2
  have r3_ := hRz.at 3
  have r4_ := hRz.at 4
  have r5_ := hRz.at 5
  have r6_ := hRz.at 6
  have r7_ := hRz.at 7
  have r8_ := hRz.at 8
  have r9_ := hRz.at 9
  have r10_ := hRz.at 10
  have r11_ := hRz.at 11
  refine bodyPost_ret (v := ruV x (some ⟨d, 0, none⟩) x.ks.len) (by simp [results, Try.results41, go_sem, ruV, ruC, r0_, r1_, r2_, r3_, r4_, r5_, r6_, r7_, r8_, r9_, r10_, r11_]) rfl ⟨d, S, rfl, (r8.keeps kz).low (by omega), bz⟩
end Go.Proofs.Ythlddehmebgfoaa
