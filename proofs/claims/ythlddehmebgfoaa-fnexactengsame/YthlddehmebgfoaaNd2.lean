/- A graph is copied by the laws: each list in memory of its own. -/
import Derived.Test.YthlddehmebgfoaaNd1
namespace Go.Proofs.Ythlddehmebgfoaa
open Go.ChangeShapes Go.WideShapes Go.ChangeAt Go.RowKit Go.Deep
set_option linter.unusedVariables false
set_option maxRecDepth 4000

/-- Numbers in a row of the call's own. -/
def IntLies (w : World) (B : Nat) (a : Option Addr) (l : List Int) : Prop := ∃ b, a = some ⟨b, 0, none⟩ ∧ IntRow w b l ∧ B ≤ b ∧ b < w.heap.size ∧ l.length ≤ maxLen
/-- Places in rows of the call's own. -/
def OccLies (w : World) (B : Nat) (a : Option Addr) (l : List Occ) : Prop := ∃ b L, a = some ⟨b, 0, none⟩ ∧ L.map (·.1) = l ∧ OccRow w B b L
theorem IntLies.keeps {w w' : World} {B : Nat} {a : Option Addr} {l : List Int} (h : IntLies w B a l) (k : Keeps B w w') : IntLies w' B a l := by
  obtain ⟨b, ha, hr, hB, hl, hm⟩ := h
  exact ⟨b, ha, hr.of_block (k.2 b hB hl), hB, Nat.lt_of_lt_of_le hl k.1, hm⟩
theorem OccLies.keeps {w w' : World} {B : Nat} {a : Option Addr} {l : List Occ} (h : OccLies w B a l) (k : Keeps B w w') : OccLies w' B a l := by
  obtain ⟨b, L, ha, hL, hr⟩ := h
  exact ⟨b, L, ha, hL, hr.stay (k.2 b hr.ge hr.lt) (fun x hx hp => k.2 _ (hr.inner_ne x hx hp).1 (hr.inner x hx hp)) k.1⟩
theorem IntLies.low {w : World} {B B' : Nat} {a : Option Addr} {l : List Int} (h : IntLies w B a l) (hB : B' ≤ B) : IntLies w B' a l := by
  obtain ⟨b, ha, hr, hb, hl, hm⟩ := h
  exact ⟨b, ha, hr, by omega, hl, hm⟩
theorem OccLies.low {w : World} {B B' : Nat} {a : Option Addr} {l : List Occ} (h : OccLies w B a l) (hB : B' ≤ B) : OccLies w B' a l := by
  obtain ⟨b, L, ha, hL, hr⟩ := h
  exact ⟨b, L, ha, hL, hr.low hB⟩
theorem IntLies.ints {w : World} {B : Nat} {a : Option Addr} {l : List Int} (h : IntLies w B a l) : Ints w a l := by
  obtain ⟨b, rfl, hr, _, _, hm⟩ := h
  exact hr.ints hm
theorem OccLies.occs {w : World} {B : Nat} {a : Option Addr} {l : List Occ} (h : OccLies w B a l) : Occs w a l := by
  obtain ⟨b, L, rfl, rfl, hr⟩ := h
  exact hr.occs

structure NdOwn (w : World) (B : Nat) (p : NA) (x : Nd) : Prop where
  ks : IntLies w B p.a0 x.ks
  pl : OccLies w B p.a1 x.pl
  pr : OccLies w B p.a2 x.pr
  sl : OccLies w B p.a3 x.sl
  sm : OccLies w B p.a4 x.sm
  du : OccLies w B p.a5 x.du
theorem NdOwn.keeps {w w' : World} {B : Nat} {p : NA} {x : Nd} (h : NdOwn w B p x) (k : Keeps B w w') : NdOwn w' B p x :=
  ⟨h.ks.keeps k, h.pl.keeps k, h.pr.keeps k, h.sl.keeps k, h.sm.keeps k, h.du.keeps k⟩
theorem NdOwn.low {w : World} {B B' : Nat} {p : NA} {x : Nd} (h : NdOwn w B p x) (hB : B' ≤ B) : NdOwn w B' p x :=
  ⟨h.ks.low hB, h.pl.low hB, h.pr.low hB, h.sl.low hB, h.sm.low hB, h.du.low hB⟩
theorem NdOwn.in {w : World} {B : Nat} {p : NA} {x : Nd} (h : NdOwn w B p x) : NdIn w p x :=
  ⟨h.ks.ints, h.pl.occs, h.pr.occs, h.sl.occs, h.sm.occs, h.du.occs⟩

def CopyN (w : World) (x : Nd) (e : Ending) (w' : World) : Prop := ∃ p, e = .returned (ndV x p) ∧ NdOwn w' w.heap.size p x ∧ Below w.heap.size w w'

set_option maxHeartbeats 4000000 in
theorem toNode_any (x : Nd) (p : NA) (w : World) (h : NdIn w p x) (hn : ndSize x ≤ 1048576) :
    Calls Try.prog 79 #[ndV x p] w (CopyN w x) := by
  have hse : ndSize x = x.ks.length + pairSize x.pl x.pr + spanSize x.sl x.sm + occsSize x.du := rfl
  have hs1 : pairSize x.pl x.pr = occsSize x.pl + occsSize x.pr := rfl
  have hs2 : spanSize x.sl x.sm = occsSize x.sl + occsSize x.sm := rfl
  have n0 : x.ks.length ≤ 1048576 := by omega
  have n1 : occsSize x.pl ≤ 1048576 := by omega
  have n2 : occsSize x.pr ≤ 1048576 := by omega
  have n3 : occsSize x.sl ≤ 1048576 := by omega
  have n4 : occsSize x.sm ≤ 1048576 := by omega
  have n5 : occsSize x.du ≤ 1048576 := by omega
  clear hse hs1 hs2 hn
  obtain ⟨A, hA⟩ : ∃ A, w.heap.size = A := ⟨_, rfl⟩
  obtain ⟨w0, hw0⟩ : ∃ w0, w.alloc (.cells (ndC x p) 127) = w0 := ⟨_, rfl⟩
  have hA0 := bx_new w (ndC x p) 127
  have b0 := oBelow_new w (.cells (ndC x p) 127)
  have z0 : (w.alloc (.cells (ndC x p) 127)).heap.size = w.heap.size + 1 := by simp
  rw [hw0] at hA0 b0 z0
  obtain ⟨R, hR⟩ : ∃ R, w0.heap.size = R := ⟨_, rfl⟩
  obtain ⟨v1, hv1⟩ : ∃ v1, w0.alloc (.cells #[.int .i64 0, .int .i64 0, .int .i64 0, .slice none 0 0, .slice none 0 0, .slice none 0 0, .slice none 0 0, .slice none 0 0, .slice none 0 0, .int .i64 0] 95) = v1 := ⟨_, rfl⟩
  have hR1 := ob_new w0 #[.int .i64 0, .int .i64 0, .int .i64 0, .slice none 0 0, .slice none 0 0, .slice none 0 0, .slice none 0 0, .slice none 0 0, .slice none 0 0, .int .i64 0] 95
  have b01 := oBelow_new w0 (.cells #[.int .i64 0, .int .i64 0, .int .i64 0, .slice none 0 0, .slice none 0 0, .slice none 0 0, .slice none 0 0, .slice none 0 0, .slice none 0 0, .int .i64 0] 95)
  have z1 : (w0.alloc (.cells #[.int .i64 0, .int .i64 0, .int .i64 0, .slice none 0 0, .slice none 0 0, .slice none 0 0, .slice none 0 0, .slice none 0 0, .slice none 0 0, .int .i64 0] 95)).heap.size = w0.heap.size + 1 := by simp
  rw [hv1] at hR1 b01 z1
  obtain ⟨B, hB⟩ : ∃ B, v1.heap.size = B := ⟨_, rfl⟩
  obtain ⟨u1, hu1⟩ : ∃ u1, v1.alloc (.cells #[.int .i64 0, .int .i64 0, .int .i64 0, .slice none 0 0, .slice none 0 0, .slice none 0 0, .slice none 0 0, .slice none 0 0, .slice none 0 0, .int .i64 0] 95) = u1 := ⟨_, rfl⟩
  have hB01 := ob_new v1 #[.int .i64 0, .int .i64 0, .int .i64 0, .slice none 0 0, .slice none 0 0, .slice none 0 0, .slice none 0 0, .slice none 0 0, .slice none 0 0, .int .i64 0] 95
  have b02 := oBelow_new v1 (.cells #[.int .i64 0, .int .i64 0, .int .i64 0, .slice none 0 0, .slice none 0 0, .slice none 0 0, .slice none 0 0, .slice none 0 0, .slice none 0 0, .int .i64 0] 95)
  have z2 : (v1.alloc (.cells #[.int .i64 0, .int .i64 0, .int .i64 0, .slice none 0 0, .slice none 0 0, .slice none 0 0, .slice none 0 0, .slice none 0 0, .slice none 0 0, .int .i64 0] 95)).heap.size = v1.heap.size + 1 := by simp
  rw [hu1] at hB01 b02 z2
  have b1 := (b0.trans (b01.mono b0.size)).trans (b02.mono (by omega))
  have hA01 := (hA0.below b01).below b02
  have hR01 := hR1.below b02
  rw [hA] at hA01
  rw [hR] at hR01
  rw [hB] at hB01
  have lAR : A < R := by omega
  have lRB : R < B := by omega
  have lBu : B + 1 ≤ u1.heap.size := by omega
  clear z0 z1 z2 b0 b01 b02 hA0 hR1
  obtain ⟨u2, hu2⟩ : ∃ u2, u1.setCell ⟨B, 0, none⟩ (.int .i64 x.kd) = u2 := ⟨_, rfl⟩
  obtain ⟨u3, hu3⟩ : ∃ u3, u2.setCell ⟨B, 1, none⟩ (.int .i64 x.sy) = u3 := ⟨_, rfl⟩
  obtain ⟨w1, hw1⟩ : ∃ w1, u3.setCell ⟨B, 2, none⟩ (.int .i64 x.nn) = w1 := ⟨_, rfl⟩
  have hA02 : Bx u2 A (ndC x p) := by rw [← hu2]; exact hA01.other (by omega) _ _
  have hA03 : Bx u3 A (ndC x p) := by rw [← hu3]; exact hA02.other (by omega) _ _
  have hA1 : Bx w1 A (ndC x p) := by rw [← hw1]; exact hA03.other (by omega) _ _
  have hB02 : OB u2 B #[.int .i64 x.kd, .int .i64 0, .int .i64 0, .slice none 0 0, .slice none 0 0, .slice none 0 0, .slice none 0 0, .slice none 0 0, .slice none 0 0, .int .i64 0] := by rw [← hu2]; exact hB01.set 0 _
  have hB03 : OB u3 B #[.int .i64 x.kd, .int .i64 x.sy, .int .i64 0, .slice none 0 0, .slice none 0 0, .slice none 0 0, .slice none 0 0, .slice none 0 0, .slice none 0 0, .int .i64 0] := by rw [← hu3]; exact hB02.set 1 _
  have hB1 : OB w1 B #[.int .i64 x.kd, .int .i64 x.sy, .int .i64 x.nn, .slice none 0 0, .slice none 0 0, .slice none 0 0, .slice none 0 0, .slice none 0 0, .slice none 0 0, .int .i64 0] := by rw [← hw1]; exact hB03.set 2 _
  have hR02 : OB u2 R #[.int .i64 0, .int .i64 0, .int .i64 0, .slice none 0 0, .slice none 0 0, .slice none 0 0, .slice none 0 0, .slice none 0 0, .slice none 0 0, .int .i64 0] := by rw [← hu2]; exact hR01.other (by omega) _ _
  have hR03 : OB u3 R #[.int .i64 0, .int .i64 0, .int .i64 0, .slice none 0 0, .slice none 0 0, .slice none 0 0, .slice none 0 0, .slice none 0 0, .slice none 0 0, .int .i64 0] := by rw [← hu3]; exact hR02.other (by omega) _ _
  have hR1 : OB w1 R #[.int .i64 0, .int .i64 0, .int .i64 0, .slice none 0 0, .slice none 0 0, .slice none 0 0, .slice none 0 0, .slice none 0 0, .slice none 0 0, .int .i64 0] := by rw [← hw1]; exact hR03.other (by omega) _ _
  have b1 : Below w.heap.size w w1 := by rw [← hw1, ← hu3, ← hu2]; exact ((b1.setCell (by show _ ≤ B; omega) _).setCell (by show _ ≤ B; omega) _).setCell (by show _ ≤ B; omega) _
  have e1 : B + 1 ≤ w1.heap.size := by have := hB1.lt; omega
  have q01 : u1.cell? ⟨A, 0, none⟩ = some (.int .i64 x.kd) := hA01.cell 0 rfl
  have q02 : u2.cell? ⟨A, 1, none⟩ = some (.int .i64 x.sy) := hA02.cell 1 rfl
  have q03 : u3.cell? ⟨A, 2, none⟩ = some (.int .i64 x.nn) := hA03.cell 2 rfl
  have c01 := hB01.at 0
  have c02 := hB02.at 1
  have c03 := hB03.at 2
  have f01 := hB01.free
  have f02 := hB02.free
  have f03 := hB03.free
  have hi1 := h.below b1
  obtain ⟨q0, q1, q2, q3, q4, q5, q6, q7, q8, q9⟩ := hA1.ten
  simp only [Nat.zero_add] at q0 q1 q2 q3 q4 q5 q6 q7 q8 q9
  unfold ndV
  unfold ndC at hw0 ⊢
  go_enter Try.func79, Try.ntmps79
  go_wp2_with fail
  refine (toIntS_any _ _ x.ks _ hi1.ks n0).mono ?_
  rintro e w2 ⟨rfl, hr2, hb2, hz2⟩
  clear q0 q1 q2 q3 q4 q5 q6 q7 q8 q9
  obtain ⟨k0, hk0⟩ : ∃ k0, w1.heap.size = k0 := ⟨_, rfl⟩
  have b2 := b1.trans (hb2.mono b1.size)
  have hR2 := hR1.below hb2
  have hB2 := hB1.below hb2
  have hA2 := hA1.below hb2
  rw [hk0] at hr2 hz2 ⊢
  have own2 : IntLies w2 (B + 1) (some ⟨k0, 0, none⟩) x.ks := ⟨k0, rfl, hr2, by omega, hz2, h.ks.len⟩
  have c3 := hB2.at 3
  have f2 := hB2.free
  obtain ⟨w3, hw3⟩ : ∃ w3, w2.setCell ⟨B, 3, none⟩ (.slice (some ⟨k0, 0, none⟩) x.ks.length x.ks.length) = w3 := ⟨_, rfl⟩
  have hB3 : OB w3 B #[.int .i64 x.kd, .int .i64 x.sy, .int .i64 x.nn, .slice (some ⟨k0, 0, none⟩) x.ks.length x.ks.length, .slice none 0 0, .slice none 0 0, .slice none 0 0, .slice none 0 0, .slice none 0 0, .int .i64 0] := by rw [← hw3]; exact hB2.set 3 _
  have hA3 : Bx w3 A (ndC x p) := by rw [← hw3]; exact hA2.other (by omega) _ _
  have hR3 := hR2.other (b := B) (by omega) 3 (.slice (some ⟨k0, 0, none⟩) x.ks.length x.ks.length)
  have kk3 := keeps_set (B := B + 1) (b := B) w2 (by omega) 3 (.slice (some ⟨k0, 0, none⟩) x.ks.length x.ks.length)
  have b3 : Below w.heap.size w w3 := by rw [← hw3]; exact b2.setCell (by show _ ≤ B; omega) _
  rw [hw3] at hR3 kk3
  have own3 := own2.keeps kk3
  obtain ⟨q0, q1, q2, q3, q4, q5, q6, q7, q8, q9⟩ := hA3.ten
  simp only [Nat.zero_add] at q0 q1 q2 q3 q4 q5 q6 q7 q8 q9
  have hi3 := h.below b3
  clear hw0 hv1 hu1 hu2 hu3 hw1 q01 q02 q03 c01 c02 c03 f01 f02 f03
  go_wp2_with fail
  refine (toPair_any _ _ _ _ x.pl x.pr _ hi3.pl hi3.pr n1 n2).mono ?_
  rintro e w4 ⟨d1, d2, M4, L1, L2, rfl, hL1, hL2, hr1, _, _, hr2', hM4, hb4⟩
  clear q0 q1 q2 q3 q4 q5 q6 q7 q8 q9 c3 f2 hw3
  have s3 : B + 1 ≤ w3.heap.size := by have := hB3.lt; omega
  have b4 := b3.trans (hb4.mono b3.size)
  have hR4 := hR3.below hb4
  have hB4 := hB3.below hb4
  have hA4 := hA3.below hb4
  have k4 : Keeps (B + 1) w3 w4 := Keeps.of_below hb4
  have own4 := own3.keeps k4
  have p14 : OccLies w4 (B + 1) (some ⟨d1, 0, none⟩) x.pl := ⟨d1, L1, rfl, hL1, hr1.low s3⟩
  have p24 : OccLies w4 (B + 1) (some ⟨d2, 0, none⟩) x.pr := ⟨d2, L2, rfl, hL2, hr2'.low (by omega)⟩
  have c4 := hB4.at 4
  have c5 := hB4.at 5
  have f4 := hB4.free
  obtain ⟨w5, hw5⟩ : ∃ w5, (w4.setCell ⟨B, 4, none⟩ (.slice (some ⟨d1, 0, none⟩) x.pl.length x.pl.length)).setCell ⟨B, 5, none⟩ (.slice (some ⟨d2, 0, none⟩) x.pr.length x.pr.length) = w5 := ⟨_, rfl⟩
  have hB5 : OB w5 B #[.int .i64 x.kd, .int .i64 x.sy, .int .i64 x.nn, .slice (some ⟨k0, 0, none⟩) x.ks.length x.ks.length, .slice (some ⟨d1, 0, none⟩) x.pl.length x.pl.length, .slice (some ⟨d2, 0, none⟩) x.pr.length x.pr.length, .slice none 0 0, .slice none 0 0, .slice none 0 0, .int .i64 0] := by
    rw [← hw5]; exact (hB4.set 4 _).set 5 _
  have hA5 : Bx w5 A (ndC x p) := by rw [← hw5]; exact (hA4.other (by omega) _ _).other (by omega) _ _
  have hR5 : OB w5 R #[.int .i64 0, .int .i64 0, .int .i64 0, .slice none 0 0, .slice none 0 0, .slice none 0 0, .slice none 0 0, .slice none 0 0, .slice none 0 0, .int .i64 0] := by rw [← hw5]; exact (hR4.other (by omega) _ _).other (by omega) _ _
  have kk5 : Keeps (B + 1) w4 w5 := by rw [← hw5]; exact (keeps_set _ (by omega) _ _).trans (keeps_set _ (by omega) _ _)
  have b5 : Below w.heap.size w w5 := by rw [← hw5]; exact (b4.setCell (by show _ ≤ B; omega) _).setCell (by show _ ≤ B; omega) _
  have own5 := own4.keeps kk5
  have p15 := p14.keeps kk5
  have p25 := p24.keeps kk5
  obtain ⟨q0, q1, q2, q3, q4, q5, q6, q7, q8, q9⟩ := hA5.ten
  simp only [Nat.zero_add] at q0 q1 q2 q3 q4 q5 q6 q7 q8 q9
  have hi5 := h.below b5
  go_wp2_with fail
  refine (toSpan_any _ _ _ _ x.sl x.sm _ hi5.sl hi5.sm n3 n4).mono ?_
  rintro e w6 ⟨d3, d4, M6, L3, L4, rfl, hL3, hL4, hr3, _, _, hr4, hM6, hb6⟩
  clear q0 q1 q2 q3 q4 q5 q6 q7 q8 q9 c4 c5 f4 hw5
  have s5 : B + 1 ≤ w5.heap.size := by have := hB5.lt; omega
  have b6 := b5.trans (hb6.mono b5.size)
  have hR6 := hR5.below hb6
  have hB6 := hB5.below hb6
  have hA6 := hA5.below hb6
  have k6 : Keeps (B + 1) w5 w6 := Keeps.of_below hb6
  have own6 := own5.keeps k6
  have p16 := p15.keeps k6
  have p26 := p25.keeps k6
  have p36 : OccLies w6 (B + 1) (some ⟨d3, 0, none⟩) x.sl := ⟨d3, L3, rfl, hL3, hr3.low s5⟩
  have p46 : OccLies w6 (B + 1) (some ⟨d4, 0, none⟩) x.sm := ⟨d4, L4, rfl, hL4, hr4.low (by omega)⟩
  have c6 := hB6.at 6
  have c7 := hB6.at 7
  have f6 := hB6.free
  obtain ⟨w7, hw7⟩ : ∃ w7, (w6.setCell ⟨B, 6, none⟩ (.slice (some ⟨d3, 0, none⟩) x.sl.length x.sl.length)).setCell ⟨B, 7, none⟩ (.slice (some ⟨d4, 0, none⟩) x.sm.length x.sm.length) = w7 := ⟨_, rfl⟩
  have hB7 : OB w7 B #[.int .i64 x.kd, .int .i64 x.sy, .int .i64 x.nn, .slice (some ⟨k0, 0, none⟩) x.ks.length x.ks.length, .slice (some ⟨d1, 0, none⟩) x.pl.length x.pl.length, .slice (some ⟨d2, 0, none⟩) x.pr.length x.pr.length,
      .slice (some ⟨d3, 0, none⟩) x.sl.length x.sl.length, .slice (some ⟨d4, 0, none⟩) x.sm.length x.sm.length, .slice none 0 0, .int .i64 0] := by
    rw [← hw7]; exact (hB6.set 6 _).set 7 _
  have hA7 : Bx w7 A (ndC x p) := by rw [← hw7]; exact (hA6.other (by omega) _ _).other (by omega) _ _
  have hR7 : OB w7 R #[.int .i64 0, .int .i64 0, .int .i64 0, .slice none 0 0, .slice none 0 0, .slice none 0 0, .slice none 0 0, .slice none 0 0, .slice none 0 0, .int .i64 0] := by rw [← hw7]; exact (hR6.other (by omega) _ _).other (by omega) _ _
  have kk7 : Keeps (B + 1) w6 w7 := by rw [← hw7]; exact (keeps_set _ (by omega) _ _).trans (keeps_set _ (by omega) _ _)
  have b7 : Below w.heap.size w w7 := by rw [← hw7]; exact (b6.setCell (by show _ ≤ B; omega) _).setCell (by show _ ≤ B; omega) _
  have own7 := own6.keeps kk7
  have p17 := p16.keeps kk7
  have p27 := p26.keeps kk7
  have p37 := p36.keeps kk7
  have p47 := p46.keeps kk7
  obtain ⟨q0, q1, q2, q3, q4, q5, q6, q7, q8, q9⟩ := hA7.ten
  simp only [Nat.zero_add] at q0 q1 q2 q3 q4 q5 q6 q7 q8 q9
  have hi7 := h.below b7
  go_wp2_with fail
  refine (toOccS_any _ _ x.du _ hi7.du n5).mono ?_
  rintro e w8 ⟨L5, rfl, hL5, hr5, hb8⟩
  clear q0 q1 q2 q3 q4 q5 q6 q7 q8 q9 c6 c7 f6 hw7
  have s7 : B + 1 ≤ w7.heap.size := by have := hB7.lt; omega
  obtain ⟨d5, hd5⟩ : ∃ d5, w7.heap.size = d5 := ⟨_, rfl⟩
  have b8 := b7.trans (hb8.mono b7.size)
  have hR8 := hR7.below hb8
  have hB8 := hB7.below hb8
  have hA8 := hA7.below hb8
  have k8 : Keeps (B + 1) w7 w8 := Keeps.of_below hb8
  have own8 := own7.keeps k8
  have p18 := p17.keeps k8
  have p28 := p27.keeps k8
  have p38 := p37.keeps k8
  have p48 := p47.keeps k8
  rw [hd5] at hr5 s7 ⊢
  have p58 : OccLies w8 (B + 1) (some ⟨d5, 0, none⟩) x.du := ⟨d5, L5, rfl, hL5, hr5.low s7⟩
  clear hb8 k8
  have c8 := hB8.at 8
  have c9 := hB8.at 9
  have f8 := hB8.free
  obtain ⟨w9, hw9⟩ : ∃ w9, (w8.setCell ⟨B, 8, none⟩ (.slice (some ⟨d5, 0, none⟩) x.du.length x.du.length)).setCell ⟨B, 9, none⟩ (.int .i64 x.mn) = w9 := ⟨_, rfl⟩
  have hB9 : OB w9 B #[.int .i64 x.kd, .int .i64 x.sy, .int .i64 x.nn, .slice (some ⟨k0, 0, none⟩) x.ks.length x.ks.length, .slice (some ⟨d1, 0, none⟩) x.pl.length x.pl.length, .slice (some ⟨d2, 0, none⟩) x.pr.length x.pr.length,
      .slice (some ⟨d3, 0, none⟩) x.sl.length x.sl.length, .slice (some ⟨d4, 0, none⟩) x.sm.length x.sm.length, .slice (some ⟨d5, 0, none⟩) x.du.length x.du.length, .int .i64 x.mn] := by
    rw [← hw9]; exact (hB8.set 8 _).set 9 _
  have hR9 : OB w9 R #[.int .i64 0, .int .i64 0, .int .i64 0, .slice none 0 0, .slice none 0 0, .slice none 0 0, .slice none 0 0, .slice none 0 0, .slice none 0 0, .int .i64 0] := by rw [← hw9]; exact (hR8.other (by omega) _ _).other (by omega) _ _
  have kk9 : Keeps (B + 1) w8 w9 := by rw [← hw9]; exact (keeps_set _ (by omega) _ _).trans (keeps_set _ (by omega) _ _)
  have b9 : Below w.heap.size w w9 := by rw [← hw9]; exact (b8.setCell (by show _ ≤ B; omega) _).setCell (by show _ ≤ B; omega) _
  have own9 := own8.keeps kk9
  have p19 := p18.keeps kk9
  have p29 := p28.keeps kk9
  have p39 := p38.keeps kk9
  have p49 := p48.keeps kk9
  have p59 := p58.keeps kk9
  have q9 := hA8.ten.2.2.2.2.2.2.2.2.2
  simp only [Nat.zero_add] at q9
  have y0 := hB9.at 0
  have y1 := hB9.at 1
  have y2 := hB9.at 2
  have y3 := hB9.at 3
  have y4 := hB9.at 4
  have y5 := hB9.at 5
  have y6 := hB9.at 6
  have y7 := hB9.at 7
  have y8 := hB9.at 8
  have y9 := hB9.at 9
  have x0 := hR9.at 0
  have x1 := hR9.at 1
  have x2 := hR9.at 2
  have x3 := hR9.at 3
  have x4 := hR9.at 4
  have x5 := hR9.at 5
  have x6 := hR9.at 6
  have x7 := hR9.at 7
  have x8 := hR9.at 8
  have x9 := hR9.at 9
  have f9 := hR9.free
  go_wp2
  have hRz := (((((((((hR9.set 0 (.int .i64 x.kd)).set 1 (.int .i64 x.sy)).set 2 (.int .i64 x.nn)).set 3 (.slice (some ⟨k0, 0, none⟩) x.ks.length x.ks.length)).set 4 (.slice (some ⟨d1, 0, none⟩) x.pl.length x.pl.length)).set 5 (.slice (some ⟨d2, 0, none⟩) x.pr.length x.pr.length)).set 6 (.slice (some ⟨d3, 0, none⟩) x.sl.length x.sl.length)).set 7 (.slice (some ⟨d4, 0, none⟩) x.sm.length x.sm.length)).set 8 (.slice (some ⟨d5, 0, none⟩) x.du.length x.du.length)).set 9 (.int .i64 x.mn)
  have kz : Keeps (B + 1) w9 _ := (((((((((keeps_set (B := B + 1) (b := R) w9 (by omega) 0 (.int .i64 x.kd)).trans (keeps_set (B := B + 1) (b := R) _ (by omega) 1 (.int .i64 x.sy))).trans (keeps_set (B := B + 1) (b := R) _ (by omega) 2 (.int .i64 x.nn))).trans (keeps_set (B := B + 1) (b := R) _ (by omega) 3 (.slice (some ⟨k0, 0, none⟩) x.ks.length x.ks.length))).trans (keeps_set (B := B + 1) (b := R) _ (by omega) 4 (.slice (some ⟨d1, 0, none⟩) x.pl.length x.pl.length))).trans (keeps_set (B := B + 1) (b := R) _ (by omega) 5 (.slice (some ⟨d2, 0, none⟩) x.pr.length x.pr.length))).trans (keeps_set (B := B + 1) (b := R) _ (by omega) 6 (.slice (some ⟨d3, 0, none⟩) x.sl.length x.sl.length))).trans (keeps_set (B := B + 1) (b := R) _ (by omega) 7 (.slice (some ⟨d4, 0, none⟩) x.sm.length x.sm.length))).trans (keeps_set (B := B + 1) (b := R) _ (by omega) 8 (.slice (some ⟨d5, 0, none⟩) x.du.length x.du.length))).trans (keeps_set (b := R) _ (by omega) 9 (.int .i64 x.mn))
  have bz := (((((((((b9.setCell (p := ⟨R, 0, none⟩) (by show _ ≤ R; omega) (.int .i64 x.kd)).setCell (p := ⟨R, 1, none⟩) (by show _ ≤ R; omega) (.int .i64 x.sy)).setCell (p := ⟨R, 2, none⟩) (by show _ ≤ R; omega) (.int .i64 x.nn)).setCell (p := ⟨R, 3, none⟩) (by show _ ≤ R; omega) (.slice (some ⟨k0, 0, none⟩) x.ks.length x.ks.length)).setCell (p := ⟨R, 4, none⟩) (by show _ ≤ R; omega) (.slice (some ⟨d1, 0, none⟩) x.pl.length x.pl.length)).setCell (p := ⟨R, 5, none⟩) (by show _ ≤ R; omega) (.slice (some ⟨d2, 0, none⟩) x.pr.length x.pr.length)).setCell (p := ⟨R, 6, none⟩) (by show _ ≤ R; omega) (.slice (some ⟨d3, 0, none⟩) x.sl.length x.sl.length)).setCell (p := ⟨R, 7, none⟩) (by show _ ≤ R; omega) (.slice (some ⟨d4, 0, none⟩) x.sm.length x.sm.length)).setCell (p := ⟨R, 8, none⟩) (by show _ ≤ R; omega) (.slice (some ⟨d5, 0, none⟩) x.du.length x.du.length)).setCell (p := ⟨R, 9, none⟩) (by show _ ≤ R; omega) (.int .i64 x.mn)
  generalize (World.setCell _ ⟨R, 9, none⟩ (.int .i64 x.mn)) = wz at hRz kz bz ⊢
  have r0 := hRz.at 0
  have r1 := hRz.at 1
  have r2 := hRz.at 2
  have r3 := hRz.at 3
  have r4 := hRz.at 4
  have r5 := hRz.at 5
  have r6 := hRz.at 6
  have r7 := hRz.at 7
  have r8 := hRz.at 8
  have r9 := hRz.at 9
  have own : NdOwn wz (B + 1) ⟨some ⟨k0, 0, none⟩, some ⟨d1, 0, none⟩, some ⟨d2, 0, none⟩, some ⟨d3, 0, none⟩, some ⟨d4, 0, none⟩, some ⟨d5, 0, none⟩, x.ks.length, x.pl.length, x.pr.length, x.sl.length, x.sm.length, x.du.length⟩ x :=
    ⟨own9.keeps kz, p19.keeps kz, p29.keeps kz, p39.keeps kz, p49.keeps kz, p59.keeps kz⟩
  refine bodyPost_ret (v := ndV x ⟨some ⟨k0, 0, none⟩, some ⟨d1, 0, none⟩, some ⟨d2, 0, none⟩, some ⟨d3, 0, none⟩, some ⟨d4, 0, none⟩, some ⟨d5, 0, none⟩, x.ks.length, x.pl.length, x.pr.length, x.sl.length, x.sm.length, x.du.length⟩)
    (by simp [results, Try.results79, go_sem, ndV, ndC, r0, r1, r2, r3, r4, r5, r6, r7, r8, r9]) rfl ⟨_, rfl, own.low (by omega), bz⟩
end Go.Proofs.Ythlddehmebgfoaa
