/- The program's EvsText writes the text of the events, at every list of events whose numbers an int holds, where the library's table lies. -/
import Derived.Test.YtpdboneapodkjaaDoorText
namespace Go.Proofs.YtpdboneapodkjaaDoor
open Go.ChangeShapes Go.WideShapes Go.ChangeAt Go.RowKit
set_option linter.unusedVariables false

/-- Block E is a variable that holds the event e. -/
def Box (w : World) (E : Nat) (e : Ev) : Prop := w.heap[E]? = some (.cells #[.int .i64 e.sym, .int .i64 e.at', .int .i64 e.val] 35 (0, 0))
theorem Box.below {w w' : World} {E : Nat} {e : Ev} (h : Box w E e) (hb : Below w.heap.size w w') : Box w' E e := (hb.block E (Array.getElem?_eq_some_iff.1 h).1).trans h
theorem Box.wrote {w w' : World} {B b E : Nat} {e : Ev} (h : Box w E e) (hw : Wrote B b w w') (hne : E ≠ b) : Box w' E e :=
  hw.others E _ (Array.getElem?_eq_some_iff.1 h).1 h hne (by intro c f hh; injection hh with _ h2 _; revert h2; decide)
theorem Box.c0 {w : World} {E : Nat} {e : Ev} (h : Box w E e) : w.cell? ⟨E, 0, none⟩ = some (.int .i64 e.sym) := by rw [Lib.cell_of_heap h]; rfl
theorem Box.c1 {w : World} {E : Nat} {e : Ev} (h : Box w E e) : w.cell? ⟨E, 1, none⟩ = some (.int .i64 e.at') := by rw [Lib.cell_of_heap h]; rfl
theorem Box.c2 {w : World} {E : Nat} {e : Ev} (h : Box w E e) : w.cell? ⟨E, 2, none⟩ = some (.int .i64 e.val) := by rw [Lib.cell_of_heap h]; rfl

theorem itoa_below (n : Int) (h0 : -9223372036854775808 ≤ n) (h1 : n ≤ 9223372036854775807) (w : World) (ht : Tab w) :
    Calls Tryd.prog 20 #[.int .i64 n] w fun e w' => e = .returned (.string ⟨(Lib.itoa n).toArray⟩) ∧ Below w.heap.size w w' :=
  (Tryd.strconv_Itoa n h0 h1 w ht).mono fun _ _ ⟨he, hg⟩ => ⟨he, below_grow hg⟩

set_option maxHeartbeats 2000000 in
theorem implEvsText_any (a : Option Addr) (cap : Nat) (l : List Ev) (w : World) (h : Evs w a l) (hn : l.length ≤ 1048576) (hw : ∀ e ∈ l, e.Wf) (ht : Tab w) :
    Calls Tryd.prog 8 #[.slice a l.length cap] w fun e w' => e = .returned (.string ⟨(evsText l).toArray⟩) ∧ Below w.heap.size w w' := by
  have hgl := ht.lt
  go_enter Tryd.func8, Tryd.ntmps8
  go_wp2
  go_loopw [4, 5, 8] (fun _ _ i wr => ∃ k : Nat, ∃ t : List UInt8, k ≤ l.length ∧ i = .int .i64 k ∧ Bld w.heap.size w.heap.size t wr ∧ Hid (t = evsText (l.take k)) ∧ Below w.heap.size w wr) (fun _ _ i _ => l.length - (intOf i).toNat)
  case atStart => exact ⟨0, [], Nat.zero_le _, rfl, Lib.fresh_isBuilder 41 5 w, rfl, (Below.refl _ _).alloc (Nat.le_refl _) _⟩
  case round =>
    obtain ⟨k, t, hk, rfl, hB, hr, hb⟩ := hrel
    have htl : t.length ≤ 45 * 1048576 := by
      have := evsText_len (l.take k) (fun e he => hw e (List.mem_of_mem_take he))
      rw [hr.out]
      have : (l.take k).length ≤ l.length := List.length_take_le' _ _
      omega
    have hs := hb.size
    have hlt0 := hB.lt
    have htr := ht.below hb hgl
    by_cases hlt : k < l.length
    · obtain ⟨b, off, rfl, hbl, hc⟩ := (h.below hb).cells (by omega)
      obtain ⟨c0, c1, c2⟩ := hc k hlt
      clear hc
      have hwf := hw l[k] (List.getElem_mem hlt)
      have hl1 := Lib.itoa_length_le l[k].at' hwf.a0 hwf.a1
      have hl2 := Lib.itoa_length_le l[k].val hwf.v0 hwf.v1
      by_cases hk0 : 0 < k
      · have hst : Hid (evsText (l.take (k + 1)) = evsText (l.take k) ++ 32 :: evText l[k]) := evsText_succ hlt hk0
        by_cases hv : l[k].val = 0
        · generalize l[k] = ek at c0 c1 c2 hst hwf hl1 hl2 hv
          have hk1 : (0 : Int) < (k : Int) := by omega
          have hvb : (ek.val != 0) = false := by simp [hv]
          have hvi : Hid (ek.val = 0) := hv
          clear hv hk0
          have hbA : Below wr.heap.size wr (wr.alloc (.cells #[.int .i64 ek.sym, .int .i64 ek.at', .int .i64 ek.val] 35)) := (Below.refl _ _).alloc (Nat.le_refl _) _
          have hBA := hB.later hbA
          have xA : Box (wr.alloc (.cells #[.int .i64 ek.sym, .int .i64 ek.at', .int .i64 ek.val] 35)) wr.heap.size ek := heap_alloc_new wr _
          have b0 := hb.trans (hbA.mono hs)
          have t0 := htr.below hbA (by omega)
          have s0 : w.heap.size ≤ (wr.alloc (.cells #[.int .i64 ek.sym, .int .i64 ek.at', .int .i64 ek.val] 35)).heap.size := by simp; omega
          go_wp2_with fail
          refine (writeByte_any _ _ (t) 32 _ hBA (by simp; omega) s0).mono ?_
          rintro e v1 ⟨rfl, B1, W1⟩
          have x1 := xA.wrote W1 (by omega)
          have b_1 := b0.trans W1.below
          have t_1 := t0.below W1.below hgl
          have s_1 := Nat.le_trans s0 W1.below.size
          have p1 := x1.c0
          have q1 := x1.c1
          have r1 := x1.c2
          go_wp2_with fail
          refine (letterOf_any _ _).mono ?_
          rintro e v2 ⟨rfl, g2⟩
          have B2 := B1.later g2
          have x2 := x1.below g2
          have b_2 := b_1.trans (g2.mono s_1)
          have t_2 := t_1.below g2 t_1.lt
          have s_2 := Nat.le_trans s_1 g2.size
          have p2 := x2.c0
          have q2 := x2.c1
          have r2 := x2.c2
          go_wp2_with fail
          refine (writeByte_any _ _ (t ++ [32]) (letB ek.sym) _ B2 (by simp; omega) s_2).mono ?_
          rintro e v3 ⟨rfl, B3, W3⟩
          have x3 := x2.wrote W3 (by omega)
          have b_3 := b_2.trans W3.below
          have t_3 := t_2.below W3.below hgl
          have s_3 := Nat.le_trans s_2 W3.below.size
          have p3 := x3.c0
          have q3 := x3.c1
          have r3 := x3.c2
          go_wp2_with fail
          refine (itoa_below _ hwf.a0 hwf.a1 _ t_3).mono ?_
          rintro e v4 ⟨rfl, g4⟩
          have B4 := B3.later g4
          have x4 := x3.below g4
          have b_4 := b_3.trans (g4.mono s_3)
          have t_4 := t_3.below g4 t_3.lt
          have s_4 := Nat.le_trans s_3 g4.size
          have p4 := x4.c0
          have q4 := x4.c1
          have r4 := x4.c2
          go_wp2_with fail
          refine (writeString_any _ _ (t ++ [32] ++ [letB ek.sym]) (Lib.itoa ek.at') _ B4 (by simp; omega) s_4).mono ?_
          rintro e v5 ⟨rfl, B5, W5⟩
          have x5 := x4.wrote W5 (by omega)
          have b_5 := b_4.trans W5.below
          have t_5 := t_4.below W5.below hgl
          have s_5 := Nat.le_trans s_4 W5.below.size
          have p5 := x5.c0
          have q5 := x5.c1
          have r5 := x5.c2
          go_wp2
          refine ⟨⟨k + 1, t ++ [32] ++ [letB ek.sym] ++ Lib.itoa ek.at', by omega, by go_num, B5, ?_, b_5⟩, by simp [intOf]; omega⟩
          show _ = evsText (l.take (k + 1))
          rw [hst.out, ← hr.out]
          simp [evText, hvi.out]
        · generalize l[k] = ek at c0 c1 c2 hst hwf hl1 hl2 hv
          have hk1 : (0 : Int) < (k : Int) := by omega
          have hvb : (ek.val != 0) = true := by simp [hv]
          have hvi : Hid (¬ ek.val = 0) := hv
          clear hv hk0
          have hbA : Below wr.heap.size wr (wr.alloc (.cells #[.int .i64 ek.sym, .int .i64 ek.at', .int .i64 ek.val] 35)) := (Below.refl _ _).alloc (Nat.le_refl _) _
          have hBA := hB.later hbA
          have xA : Box (wr.alloc (.cells #[.int .i64 ek.sym, .int .i64 ek.at', .int .i64 ek.val] 35)) wr.heap.size ek := heap_alloc_new wr _
          have b0 := hb.trans (hbA.mono hs)
          have t0 := htr.below hbA (by omega)
          have s0 : w.heap.size ≤ (wr.alloc (.cells #[.int .i64 ek.sym, .int .i64 ek.at', .int .i64 ek.val] 35)).heap.size := by simp; omega
          go_wp2_with fail
          refine (writeByte_any _ _ (t) 32 _ hBA (by simp; omega) s0).mono ?_
          rintro e v1 ⟨rfl, B1, W1⟩
          have x1 := xA.wrote W1 (by omega)
          have b_1 := b0.trans W1.below
          have t_1 := t0.below W1.below hgl
          have s_1 := Nat.le_trans s0 W1.below.size
          have p1 := x1.c0
          have q1 := x1.c1
          have r1 := x1.c2
          go_wp2_with fail
          refine (letterOf_any _ _).mono ?_
          rintro e v2 ⟨rfl, g2⟩
          have B2 := B1.later g2
          have x2 := x1.below g2
          have b_2 := b_1.trans (g2.mono s_1)
          have t_2 := t_1.below g2 t_1.lt
          have s_2 := Nat.le_trans s_1 g2.size
          have p2 := x2.c0
          have q2 := x2.c1
          have r2 := x2.c2
          go_wp2_with fail
          refine (writeByte_any _ _ (t ++ [32]) (letB ek.sym) _ B2 (by simp; omega) s_2).mono ?_
          rintro e v3 ⟨rfl, B3, W3⟩
          have x3 := x2.wrote W3 (by omega)
          have b_3 := b_2.trans W3.below
          have t_3 := t_2.below W3.below hgl
          have s_3 := Nat.le_trans s_2 W3.below.size
          have p3 := x3.c0
          have q3 := x3.c1
          have r3 := x3.c2
          go_wp2_with fail
          refine (itoa_below _ hwf.a0 hwf.a1 _ t_3).mono ?_
          rintro e v4 ⟨rfl, g4⟩
          have B4 := B3.later g4
          have x4 := x3.below g4
          have b_4 := b_3.trans (g4.mono s_3)
          have t_4 := t_3.below g4 t_3.lt
          have s_4 := Nat.le_trans s_3 g4.size
          have p4 := x4.c0
          have q4 := x4.c1
          have r4 := x4.c2
          go_wp2_with fail
          refine (writeString_any _ _ (t ++ [32] ++ [letB ek.sym]) (Lib.itoa ek.at') _ B4 (by simp; omega) s_4).mono ?_
          rintro e v5 ⟨rfl, B5, W5⟩
          have x5 := x4.wrote W5 (by omega)
          have b_5 := b_4.trans W5.below
          have t_5 := t_4.below W5.below hgl
          have s_5 := Nat.le_trans s_4 W5.below.size
          have p5 := x5.c0
          have q5 := x5.c1
          have r5 := x5.c2
          go_wp2_with fail
          refine (writeByte_any _ _ (t ++ [32] ++ [letB ek.sym] ++ Lib.itoa ek.at') 61 _ B5 (by simp; omega) s_5).mono ?_
          rintro e v6 ⟨rfl, B6, W6⟩
          have x6 := x5.wrote W6 (by omega)
          have b_6 := b_5.trans W6.below
          have t_6 := t_5.below W6.below hgl
          have s_6 := Nat.le_trans s_5 W6.below.size
          have p6 := x6.c0
          have q6 := x6.c1
          have r6 := x6.c2
          go_wp2_with fail
          refine (itoa_below _ hwf.v0 hwf.v1 _ t_6).mono ?_
          rintro e v7 ⟨rfl, g7⟩
          have B7 := B6.later g7
          have x7 := x6.below g7
          have b_7 := b_6.trans (g7.mono s_6)
          have t_7 := t_6.below g7 t_6.lt
          have s_7 := Nat.le_trans s_6 g7.size
          have p7 := x7.c0
          have q7 := x7.c1
          have r7 := x7.c2
          go_wp2_with fail
          refine (writeString_any _ _ (t ++ [32] ++ [letB ek.sym] ++ Lib.itoa ek.at' ++ [61]) (Lib.itoa ek.val) _ B7 (by simp; omega) s_7).mono ?_
          rintro e v8 ⟨rfl, B8, W8⟩
          have x8 := x7.wrote W8 (by omega)
          have b_8 := b_7.trans W8.below
          have t_8 := t_7.below W8.below hgl
          have s_8 := Nat.le_trans s_7 W8.below.size
          have p8 := x8.c0
          have q8 := x8.c1
          have r8 := x8.c2
          go_wp2
          refine ⟨⟨k + 1, t ++ [32] ++ [letB ek.sym] ++ Lib.itoa ek.at' ++ [61] ++ Lib.itoa ek.val, by omega, by go_num, B8, ?_, b_8⟩, by simp [intOf]; omega⟩
          show _ = evsText (l.take (k + 1))
          rw [hst.out, ← hr.out]
          simp [evText, hvi.out]
      · have hst : Hid (evsText (l.take (k + 1)) = evsText (l.take k) ++ evText l[k]) := evsText_zero hlt hk0
        by_cases hv : l[k].val = 0
        · generalize l[k] = ek at c0 c1 c2 hst hwf hl1 hl2 hv
          have hk1 : ¬ (0 : Int) < (k : Int) := by omega
          have hvb : (ek.val != 0) = false := by simp [hv]
          have hvi : Hid (ek.val = 0) := hv
          clear hv hk0
          have hbA : Below wr.heap.size wr (wr.alloc (.cells #[.int .i64 ek.sym, .int .i64 ek.at', .int .i64 ek.val] 35)) := (Below.refl _ _).alloc (Nat.le_refl _) _
          have hBA := hB.later hbA
          have xA : Box (wr.alloc (.cells #[.int .i64 ek.sym, .int .i64 ek.at', .int .i64 ek.val] 35)) wr.heap.size ek := heap_alloc_new wr _
          have b0 := hb.trans (hbA.mono hs)
          have t0 := htr.below hbA (by omega)
          have s0 : w.heap.size ≤ (wr.alloc (.cells #[.int .i64 ek.sym, .int .i64 ek.at', .int .i64 ek.val] 35)).heap.size := by simp; omega
          go_wp2_with fail
          refine (letterOf_any _ _).mono ?_
          rintro e v1 ⟨rfl, g1⟩
          have B1 := hBA.later g1
          have x1 := xA.below g1
          have b_1 := b0.trans (g1.mono s0)
          have t_1 := t0.below g1 t0.lt
          have s_1 := Nat.le_trans s0 g1.size
          have p1 := x1.c0
          have q1 := x1.c1
          have r1 := x1.c2
          go_wp2_with fail
          refine (writeByte_any _ _ (t) (letB ek.sym) _ B1 (by simp; omega) s_1).mono ?_
          rintro e v2 ⟨rfl, B2, W2⟩
          have x2 := x1.wrote W2 (by omega)
          have b_2 := b_1.trans W2.below
          have t_2 := t_1.below W2.below hgl
          have s_2 := Nat.le_trans s_1 W2.below.size
          have p2 := x2.c0
          have q2 := x2.c1
          have r2 := x2.c2
          go_wp2_with fail
          refine (itoa_below _ hwf.a0 hwf.a1 _ t_2).mono ?_
          rintro e v3 ⟨rfl, g3⟩
          have B3 := B2.later g3
          have x3 := x2.below g3
          have b_3 := b_2.trans (g3.mono s_2)
          have t_3 := t_2.below g3 t_2.lt
          have s_3 := Nat.le_trans s_2 g3.size
          have p3 := x3.c0
          have q3 := x3.c1
          have r3 := x3.c2
          go_wp2_with fail
          refine (writeString_any _ _ (t ++ [letB ek.sym]) (Lib.itoa ek.at') _ B3 (by simp; omega) s_3).mono ?_
          rintro e v4 ⟨rfl, B4, W4⟩
          have x4 := x3.wrote W4 (by omega)
          have b_4 := b_3.trans W4.below
          have t_4 := t_3.below W4.below hgl
          have s_4 := Nat.le_trans s_3 W4.below.size
          have p4 := x4.c0
          have q4 := x4.c1
          have r4 := x4.c2
          go_wp2
          refine ⟨⟨k + 1, t ++ [letB ek.sym] ++ Lib.itoa ek.at', by omega, by go_num, B4, ?_, b_4⟩, by simp [intOf]; omega⟩
          show _ = evsText (l.take (k + 1))
          rw [hst.out, ← hr.out]
          simp [evText, hvi.out]
        · generalize l[k] = ek at c0 c1 c2 hst hwf hl1 hl2 hv
          have hk1 : ¬ (0 : Int) < (k : Int) := by omega
          have hvb : (ek.val != 0) = true := by simp [hv]
          have hvi : Hid (¬ ek.val = 0) := hv
          clear hv hk0
          have hbA : Below wr.heap.size wr (wr.alloc (.cells #[.int .i64 ek.sym, .int .i64 ek.at', .int .i64 ek.val] 35)) := (Below.refl _ _).alloc (Nat.le_refl _) _
          have hBA := hB.later hbA
          have xA : Box (wr.alloc (.cells #[.int .i64 ek.sym, .int .i64 ek.at', .int .i64 ek.val] 35)) wr.heap.size ek := heap_alloc_new wr _
          have b0 := hb.trans (hbA.mono hs)
          have t0 := htr.below hbA (by omega)
          have s0 : w.heap.size ≤ (wr.alloc (.cells #[.int .i64 ek.sym, .int .i64 ek.at', .int .i64 ek.val] 35)).heap.size := by simp; omega
          go_wp2_with fail
          refine (letterOf_any _ _).mono ?_
          rintro e v1 ⟨rfl, g1⟩
          have B1 := hBA.later g1
          have x1 := xA.below g1
          have b_1 := b0.trans (g1.mono s0)
          have t_1 := t0.below g1 t0.lt
          have s_1 := Nat.le_trans s0 g1.size
          have p1 := x1.c0
          have q1 := x1.c1
          have r1 := x1.c2
          go_wp2_with fail
          refine (writeByte_any _ _ (t) (letB ek.sym) _ B1 (by simp; omega) s_1).mono ?_
          rintro e v2 ⟨rfl, B2, W2⟩
          have x2 := x1.wrote W2 (by omega)
          have b_2 := b_1.trans W2.below
          have t_2 := t_1.below W2.below hgl
          have s_2 := Nat.le_trans s_1 W2.below.size
          have p2 := x2.c0
          have q2 := x2.c1
          have r2 := x2.c2
          go_wp2_with fail
          refine (itoa_below _ hwf.a0 hwf.a1 _ t_2).mono ?_
          rintro e v3 ⟨rfl, g3⟩
          have B3 := B2.later g3
          have x3 := x2.below g3
          have b_3 := b_2.trans (g3.mono s_2)
          have t_3 := t_2.below g3 t_2.lt
          have s_3 := Nat.le_trans s_2 g3.size
          have p3 := x3.c0
          have q3 := x3.c1
          have r3 := x3.c2
          go_wp2_with fail
          refine (writeString_any _ _ (t ++ [letB ek.sym]) (Lib.itoa ek.at') _ B3 (by simp; omega) s_3).mono ?_
          rintro e v4 ⟨rfl, B4, W4⟩
          have x4 := x3.wrote W4 (by omega)
          have b_4 := b_3.trans W4.below
          have t_4 := t_3.below W4.below hgl
          have s_4 := Nat.le_trans s_3 W4.below.size
          have p4 := x4.c0
          have q4 := x4.c1
          have r4 := x4.c2
          go_wp2_with fail
          refine (writeByte_any _ _ (t ++ [letB ek.sym] ++ Lib.itoa ek.at') 61 _ B4 (by simp; omega) s_4).mono ?_
          rintro e v5 ⟨rfl, B5, W5⟩
          have x5 := x4.wrote W5 (by omega)
          have b_5 := b_4.trans W5.below
          have t_5 := t_4.below W5.below hgl
          have s_5 := Nat.le_trans s_4 W5.below.size
          have p5 := x5.c0
          have q5 := x5.c1
          have r5 := x5.c2
          go_wp2_with fail
          refine (itoa_below _ hwf.v0 hwf.v1 _ t_5).mono ?_
          rintro e v6 ⟨rfl, g6⟩
          have B6 := B5.later g6
          have x6 := x5.below g6
          have b_6 := b_5.trans (g6.mono s_5)
          have t_6 := t_5.below g6 t_5.lt
          have s_6 := Nat.le_trans s_5 g6.size
          have p6 := x6.c0
          have q6 := x6.c1
          have r6 := x6.c2
          go_wp2_with fail
          refine (writeString_any _ _ (t ++ [letB ek.sym] ++ Lib.itoa ek.at' ++ [61]) (Lib.itoa ek.val) _ B6 (by simp; omega) s_6).mono ?_
          rintro e v7 ⟨rfl, B7, W7⟩
          have x7 := x6.wrote W7 (by omega)
          have b_7 := b_6.trans W7.below
          have t_7 := t_6.below W7.below hgl
          have s_7 := Nat.le_trans s_6 W7.below.size
          have p7 := x7.c0
          have q7 := x7.c1
          have r7 := x7.c2
          go_wp2
          refine ⟨⟨k + 1, t ++ [letB ek.sym] ++ Lib.itoa ek.at' ++ [61] ++ Lib.itoa ek.val, by omega, by go_num, B7, ?_, b_7⟩, by simp [intOf]; omega⟩
          show _ = evsText (l.take (k + 1))
          rw [hst.out, ← hr.out]
          simp [evText, hvi.out]
    · go_wp2_with fail
      refine (Tryd.Builder_String_any _ _ t _ hB hs).mono ?_
      rintro e w1 ⟨rfl, hb1⟩
      go_wp2
      go_ret
      rw [List.take_of_length_le (by omega)] at hr
      exact ⟨ret_str (by rw [hr.out]), hb.trans hb1⟩
end Go.Proofs.YtpdboneapodkjaaDoor
