/- The words that are left, as the program holds them: next, and begin of three kinds. -/
import Derived.Test.YtpkinlcinccccaaDoorExRd6
import Derived.Test.YtpkinlcinccccaaDoorExK
namespace Go.Proofs.YtpkinlcinccccaaDoor
open Go.ChangeShapes Go.WideShapes Go.ChangeAt Go.RowKit
set_option linter.unusedVariables false
set_option maxRecDepth 4000
/-- The words from the i-th on are left: block Bw says so, the texts lie in block g. -/
structure Left (w : World) (Bw g : Nat) (ps : List ByteArray) (i : Nat) : Prop where
  box : ∃ a, w.heap[Bw]? = some (.cells #[.slice a (ps.length - i) (ps.length - i)] 76 (0, 0)) ∧ (i < ps.length → a = some ⟨g, i, none⟩)
  row : Pieces w g ps
  ne : g ≠ Bw
theorem Left.lt {w : World} {Bw g i : Nat} {ps : List ByteArray} (h : Left w Bw g ps i) : Bw < w.heap.size := by
  obtain ⟨a, h, _⟩ := h.box
  exact (Array.getElem?_eq_some_iff.1 h).1
theorem Left.free {w : World} {Bw g i : Nat} {ps : List ByteArray} (h : Left w Bw g ps i) : w.frozen? ⟨Bw, 0, none⟩ = false := by
  obtain ⟨a, h, _⟩ := h.box
  exact Lib.frozen_of_heap h 0
theorem Left.blocks {w w' : World} {Bw g i : Nat} {ps : List ByteArray} (h : Left w Bw g ps i) (h1 : w'.heap[Bw]? = w.heap[Bw]?) (h2 : w'.heap[g]? = w.heap[g]?) : Left w' Bw g ps i := by
  obtain ⟨c, k1, k2⟩ := h.row.row
  obtain ⟨a, h3, h4⟩ := h.box
  exact ⟨⟨a, h1.trans h3, h4⟩, ⟨c, h2.trans k1, k2⟩, h.ne⟩
theorem Left.below {w w' : World} {Bw g i : Nat} {ps : List ByteArray} (h : Left w Bw g ps i) (hb : Below w.heap.size w w') : Left w' Bw g ps i := h.blocks (hb.block _ h.lt) (hb.block _ h.row.lt)
theorem Left.take {w : World} {Bw g i : Nat} {ps : List ByteArray} (h : Left w Bw g ps i) (a : Option Addr) (n : Nat) (ha : i + 1 < ps.length → a = some ⟨g, i + 1, none⟩) (hn : n = ps.length - (i + 1)) : Left (w.setCell ⟨Bw, 0, none⟩ (.slice a n n)) Bw g ps (i + 1) := by
  obtain ⟨c, k1, k2⟩ := h.row.row
  obtain ⟨a', h3, h4⟩ := h.box
  subst hn
  exact ⟨⟨a, heap_setCell_same _ _ _ _ _ _ h3, ha⟩, ⟨c, (Below.heap_setCell _ _ _ _ h.ne).trans k1, k2⟩, h.ne⟩
def NextPost (ps : List ByteArray) (Bw g i : Nat) (s : ByteArray) (w : World) (e : Ending) (w' : World) : Prop := e = .returned (.string s) ∧ w.grownBy w' (some Bw) ∧ Left w' Bw g ps (i + 1)
set_option maxHeartbeats 1000000 in
theorem next_some (ps : List ByteArray) (Bw g i : Nat) (w : World) (h : Left w Bw g ps i) (hi : i < ps.length) (hlen : ps.length ≤ 1000) :
    Calls Tryd.prog 48 #[.pointer (some ⟨Bw, 0, none⟩)] w (NextPost ps Bw g i ps[i] w) := by
  have f0 := h.free
  obtain ⟨a, hbox, ha⟩ := h.box
  obtain rfl := ha hi
  have c0 := cell_at hbox 0
  have c1 := h.row.cell hi
  obtain ⟨L, hLe⟩ : ∃ L, ps.length - i = L := ⟨_, rfl⟩
  have hL1 : 1 ≤ L := by omega
  have hL2 : L ≤ 1000 := by omega
  have HL : Hid (ps.length - i = L) := hLe
  generalize ps[i] = s at c1
  rw [hLe] at c0 hbox
  simp at c0
  clear hLe ha
  have hL0 : ((L : Int) == 0) = false := by simp; omega
  by_cases hL : L = 1
  · subst hL
    go_enter Tryd.func48, Tryd.ntmps48
    go_wp2
    go_ret
    exact ⟨rfl, grownBy_setCell' _ _ _, h.take _ _ (fun h1 => by have := HL.out; omega) (by have := HL.out; omega)⟩
  · have hL3 : ¬ L = 1 := hL
    have hL4 : 2 ≤ L := by omega
    have hL5 : (L - 1 == 0) = false := by simp; omega
    go_enter Tryd.func48, Tryd.ntmps48
    go_wp2
    go_ret
    exact ⟨rfl, grownBy_setCell' _ _ _, h.take _ _ (fun _ => rfl) (by have := HL.out; omega)⟩
set_option maxHeartbeats 1000000 in
theorem next_none (ps : List ByteArray) (Bw g : Nat) (w : World) (t : TypeId) (v : Value) (hE : ErrAt w t v) (h : Left w Bw g ps ps.length) :
    Calls Tryd.prog 48 #[.pointer (some ⟨Bw, 0, none⟩)] w fun e w' => e = .panicked [{ v := .iface t v, recovered := false }] ∧ w' = w := by
  obtain ⟨a, hbox, ha⟩ := h.box
  have c0 := cell_at hbox 0
  rw [Nat.sub_self] at c0
  simp at c0
  have hE' : w.cell? ⟨0, 0, none⟩ = some (.iface t v) := hE
  clear hbox ha h
  go_enter Tryd.func48, Tryd.ntmps48
  go_wp2
  exact ⟨rfl, rfl, rfl⟩
theorem results_box {fn : Func} {p u : Tmp} (h : fn.results = #[.cell p 29, .tmp u]) (tmps : Array Value) (w : World) (g : Nat) (kd sy n : Int) (v : Value) (hp : tmps.getD p undef = .pointer (some ⟨g, 0, none⟩)) (hg : PBox w g kd sy n v) :
    (results fn tmps).run Tryd.prog w = .ok (.tuple #[.agg #[.int .i64 kd, .int .i64 sy, .int .i64 n, v], tmps.getD u undef]) w := by
  rw [results_cell_tmp h, hp]
  have hl := run_loadVar_row w g 29 29 _ (0, 0) _ hg.row Tryd.underlying29 rfl (by kernel_rfl)
  simp [asAddr, hl, Result.andThen]
/-- The number that the program reads of a word. -/
def numA (u : Wd) : Option Int := some (numAt 0 u).1
theorem numA_small (n : Int) (h1 : 1 ≤ n) (h2 : n ≤ 20) : numA (Lib.itoa n) = some n := by
  have := numAt_itoa (n := n) (by omega) (by omega) [] (fun c h => by cases h)
  rw [List.append_nil] at this
  simp [numA, this]
/-- The word is one of kind j. -/
def hitB (j : Nat) (v : Wd) : Bool := if j = 1 then decide (0 ≤ symW v) else decide (kindW v = j)
def BeginPost (ps : List ByteArray) (Bw g i j : Nat) (s : ByteArray) (t : TypeId) (v : Value) (w : World) (e : Ending) (w' : World) : Prop :=
  (hitB j (bs s) = false ∧ ∃ x0 x1 x2 : Int, e = .returned (.tuple #[.agg #[.int .i64 x0, .int .i64 x1, .int .i64 x2, .slice none 0 0], .bool false]) ∧ Below w.heap.size w w') ∨
  (hitB j (bs s) = true ∧ w.grownBy w' (some Bw) ∧ ((∃ (sy n : Int) (i' : Nat), e = .returned (.tuple #[.agg #[.int .i64 j, .int .i64 sy, .int .i64 n, .slice none 0 0], .bool true]) ∧ Hid (headR numA (bs s :: (ps.map bs).drop i) = some ((j : Int), sy, n, (ps.map bs).drop i')) ∧ i ≤ i' ∧ i' ≤ ps.length ∧ Left w' Bw g ps i') ∨
    (headR numA (bs s :: (ps.map bs).drop i) = none ∧ e = .panicked [{ v := .iface t v, recovered := false }])))
theorem below_by {w w' : World} (h : Below w.heap.size w w') (r : Option Nat) : w.grownBy w' r := ⟨h.os, h.tape, h.output, h.size, fun k hk _ => h.block k hk⟩
theorem sym_hit {s : ByteArray} (h : s.size = 1) : symW (bs s) = symB s[0] := by rw [bs_one h]; rfl
theorem sym_long {s : ByteArray} (h : s.size ≠ 1) : symW (bs s) = -1 := by
  have hl := bs_len s
  cases hb : bs s with
  | nil => rfl
  | cons c t =>
    cases t with
    | nil => rw [hb] at hl; simp at hl; omega
    | cons d u => rfl
theorem symB_ge (c : UInt8) : -1 ≤ symB c := by unfold symB; split <;> omega
theorem begin_box (w : World) (o : Obj) : PBox ((w.alloc o).alloc (.cells #[.int .i64 0, .int .i64 0, .int .i64 0, .slice none 0 0] 29)) (w.heap.size + 1) 0 0 0 (.slice none 0 0) := ⟨by
  have := heap_alloc_new (w.alloc o) (.cells #[.int .i64 0, .int .i64 0, .int .i64 0, .slice none 0 0] 29)
  simpa using this⟩
theorem Left.store {w : World} {Bw g i b : Nat} {ps : List ByteArray} (h : Left w Bw g ps i) (h1 : Bw ≠ b) (h2 : g ≠ b) (v0 v1 v2 v3 : Value) : Left ((((w.setCell ⟨b, 0, none⟩ v0).setCell ⟨b, 1, none⟩ v1).setCell ⟨b, 2, none⟩ v2).setCell ⟨b, 3, none⟩ v3) Bw g ps i := by
  refine h.blocks ?_ ?_
  · rw [Below.heap_setCell _ _ _ _ h1, Below.heap_setCell _ _ _ _ h1, Below.heap_setCell _ _ _ _ h1, Below.heap_setCell _ _ _ _ h1]
  · rw [Below.heap_setCell _ _ _ _ h2, Below.heap_setCell _ _ _ _ h2, Below.heap_setCell _ _ _ _ h2, Below.heap_setCell _ _ _ _ h2]
theorem grown_store {w w' : World} {r : Option Nat} {b : Nat} (h : w.grownBy w' r) (hb : w.heap.size ≤ b) (v0 v1 v2 v3 : Value) : w.grownBy ((((w'.setCell ⟨b, 0, none⟩ v0).setCell ⟨b, 1, none⟩ v1).setCell ⟨b, 2, none⟩ v2).setCell ⟨b, 3, none⟩ v3) r :=
  ⟨h.1, h.2, h.3, by simpa using h.4, fun k hk hne => by
    rw [Below.heap_setCell _ _ _ _ (by simp; omega), Below.heap_setCell _ _ _ _ (by simp; omega), Below.heap_setCell _ _ _ _ (by simp; omega), Below.heap_setCell _ _ _ _ (by simp; omega)]
    exact h.5 k hk hne⟩
theorem grown_drew {w w' : World} {r : Option Nat} (h : w.grownBy w' r) : w.grownBy w'.drew r := grownBy_trans h (below_by ((Below.refl w'.heap.size w').drew) r)
theorem PBox.drew {w : World} {b : Nat} {kd sy n : Int} {v : Value} (h : PBox w b kd sy n v) : PBox w.drew b kd sy n v := ⟨h.row⟩
theorem Left.drew {w : World} {Bw g i : Nat} {ps : List ByteArray} (h : Left w Bw g ps i) : Left w.drew Bw g ps i := h.blocks rfl rfl
set_option maxHeartbeats 1000000 in
theorem beginSym_any (ps : List ByteArray) (Bw g i : Nat) (s : ByteArray) (t : TypeId) (v : Value) (w : World) (h : Left w Bw g ps i) (hi : i ≤ ps.length) (hs : s.size ≤ 1048576) :
    Calls Tryd.prog 80 #[.agg #[], .string s, .pointer (some ⟨Bw, 0, none⟩)] w (BeginPost ps Bw g i 1 s t v w) := by
  have hbA := bel2 w (.cells #[] 58) (.cells #[.int .i64 0, .int .i64 0, .int .i64 0, .slice none 0 0] 29)
  have hxA := begin_box w (.cells #[] 58)
  by_cases h1 : s.size = 1
  · have hs1 : ((s.size : Int) != 1) = false := by simp; omega
    have hq := fun w => symOf_any s[0] w
    have hsym := sym_hit h1
    by_cases h0 : symB s[0] < 0
    · have hit : Hid (hitB 1 (bs s) = false) := by show _ = _; simp [hitB, hsym]; omega
      clear hsym
      generalize symB s[0] = q at hq h0
      go_enter Tryd.func80, Tryd.ntmps80
      go_wp2_with fail
      refine (hq _).mono ?_
      rintro e w1 ⟨rfl, hb1⟩
      have hx1 := hxA.below hb1
      have b1 := hbA.trans (hb1.mono hbA.size)
      obtain ⟨z0, z1, z2, z3⟩ := hx1.cells
      have f0 := hx1.free 0
      have f1 := hx1.free 1
      have f2 := hx1.free 2
      have f3 := hx1.free 3
      go_wp2
      exact bodyPost_ret (results_box (p := 6) (u := 7) rfl _ _ (w.heap.size + 1) 0 0 0 _ rfl (hx1.store 0 0 0 _)) rfl (Or.inl ⟨hit.out, 0, 0, 0, rfl, below_store b1 (by omega) _ _ _ _⟩)
    · have hit : Hid (hitB 1 (bs s) = true) := by show _ = _; simp [hitB, hsym]; omega
      have HR : Hid (headR numA (bs s :: (ps.map bs).drop i) = some (((1 : Nat) : Int), symB s[0], 0, (ps.map bs).drop i)) := by
        show _ = _
        rw [headR_cons, if_pos (by rw [hsym]; omega), hsym]; rfl
      clear hsym
      generalize symB s[0] = q at hq h0 HR
      go_enter Tryd.func80, Tryd.ntmps80
      go_wp2_with fail
      refine (hq _).mono ?_
      rintro e w1 ⟨rfl, hb1⟩
      have hx1 := hxA.below hb1
      have b1 := hbA.trans (hb1.mono hbA.size)
      go_wp2_with fail
      refine (hq _).mono ?_
      rintro e w2 ⟨rfl, hb2⟩
      have hx2 := hx1.below hb2
      have b2 := b1.trans (hb2.mono b1.size)
      have hlA := h.lt
      have hlg := h.row.lt
      obtain ⟨z0, z1, z2, z3⟩ := hx2.cells
      have f0 := hx2.free 0
      have f1 := hx2.free 1
      have f2 := hx2.free 2
      have f3 := hx2.free 3
      go_wp2
      exact bodyPost_ret (results_box (p := 6) (u := 7) rfl _ _ (w.heap.size + 1) 1 q 0 _ rfl (hx2.store 1 q 0 _)) rfl (Or.inr ⟨hit.out, grown_store (below_by b2 _) (by omega) _ _ _ _, Or.inl ⟨q, 0, i, rfl, HR, Nat.le_refl _, hi, (h.below b2).store (by omega) (by omega) _ _ _ _⟩⟩)
  · have hs1 : ((s.size : Int) != 1) = true := by simp; omega
    have hit : Hid (hitB 1 (bs s) = false) := by show _ = _; simp [hitB, sym_long h1]
    go_enter Tryd.func80, Tryd.ntmps80
    go_wp2
    exact bodyPost_ret (results_box (p := 6) (u := 7) rfl _ _ (w.heap.size + 1) 0 0 0 _ rfl hxA) rfl (Or.inl ⟨hit.out, 0, 0, 0, rfl, hbA⟩)
theorem sym_word {j : Nat} (h2 : 2 ≤ j) (h7 : j ≤ 7) {v : Wd} (h : kindW v = j) : ¬ 0 ≤ symW v := by
  have hw := (kindW_word (v := v) (by omega)).1
  rw [h] at hw
  rw [← hw]
  have cs : j = 2 ∨ j = 3 ∨ j = 4 ∨ j = 5 ∨ j = 6 ∨ j = 7 := by omega
  rcases cs with rfl | rfl | rfl | rfl | rfl | rfl <;> decide
set_option maxHeartbeats 1000000 in
theorem beginJoin_any (ps : List ByteArray) (Bw g i j : Nat) (many : Int) (s : ByteArray) (t : TypeId) (v : Value) (w : World) (h : Left w Bw g ps i) (hi : i ≤ ps.length) (h2 : 2 ≤ j) (h6 : j ≤ 6) :
    Calls Tryd.prog 88 #[.agg #[.int .i64 j, .string ⟨(wordB j).toArray⟩, .int .i64 many], .string s, .pointer (some ⟨Bw, 0, none⟩)] w (BeginPost ps Bw g i j s t v w) := by
  have hbA := bel2 w (.cells #[.int .i64 j, .string ⟨(wordB j).toArray⟩, .int .i64 many] 60) (.cells #[.int .i64 0, .int .i64 0, .int .i64 0, .slice none 0 0] 29)
  have hxA := begin_box w (.cells #[.int .i64 j, .string ⟨(wordB j).toArray⟩, .int .i64 many] 60)
  have hlA := h.lt
  have hlg := h.row.lt
  obtain ⟨z0, z1, z2, z3⟩ := hxA.cells
  have f0 := hxA.free 0
  have f1 := hxA.free 1
  have f2 := hxA.free 2
  have f3 := hxA.free 3
  by_cases he : (⟨(wordB j).toArray⟩ : ByteArray) = s
  · have hk := kindW_at h2 (by omega) he
    have hit : Hid (hitB j (bs s) = true) := by show _ = _; simp [hitB, hk]; omega
    have HR : Hid (headR numA (bs s :: (ps.map bs).drop i) = some ((j : Int), 0, 0, (ps.map bs).drop i)) := by
      show _ = _
      rw [headR_cons, if_neg (sym_word h2 (by omega) hk), if_neg (by omega), if_neg (by omega), hk]
    have hbe : (s.toList == wordB (j : Int)) = true := by rw [Bool.beq_comm]; exact word_yes he
    have hbe2 : (wordB (j : Int) == s.toList) = true := word_yes he
    clear hk he
    obtain ⟨wA, hwA⟩ : ∃ wA, (w.alloc (.cells #[.int .i64 j, .string ⟨(wordB j).toArray⟩, .int .i64 many] 60)).alloc (.cells #[.int .i64 0, .int .i64 0, .int .i64 0, .slice none 0 0] 29) = wA := ⟨_, rfl⟩
    rw [hwA] at hbA hxA z0 z1 z2 z3 f0 f1 f2 f3
    have hJ : wA.heap[w.heap.size]? = some (.cells #[.int .i64 j, .string ⟨(wordB j).toArray⟩, .int .i64 many] 60 (0, 0)) := by rw [← hwA]; exact (Below.heap_alloc _ _ _ (by simp)).trans (World.alloc_heap_new w _)
    have j0 := cell_at hJ 0
    have j1 := cell_at hJ 1
    simp at j0 j1
    go_enter Tryd.func88, Tryd.ntmps88
    go_wp2_with fail
    go_region
    all_goals go_wp2
    exact bodyPost_ret (results_box (p := 6) (u := 7) rfl _ _ (w.heap.size + 1) j 0 0 _ rfl (hxA.store j 0 0 _).drew) rfl (Or.inr ⟨hit.out, grown_drew (grown_store (below_by hbA _) (by omega) _ _ _ _), Or.inl ⟨0, 0, i, rfl, HR, Nat.le_refl _, hi, ((h.below hbA).store (by omega) (by omega) _ _ _ _).drew⟩⟩)
  · have hk := kindW_not h2 (by omega) he
    have hit : Hid (hitB j (bs s) = false) := by show _ = _; simp [hitB, hk]; omega
    have hbe : (s.toList == wordB (j : Int)) = false := by rw [Bool.beq_comm]; exact word_no he
    clear hk he
    obtain ⟨wA, hwA⟩ : ∃ wA, (w.alloc (.cells #[.int .i64 j, .string ⟨(wordB j).toArray⟩, .int .i64 many] 60)).alloc (.cells #[.int .i64 0, .int .i64 0, .int .i64 0, .slice none 0 0] 29) = wA := ⟨_, rfl⟩
    rw [hwA] at hbA hxA z0 z1 z2 z3 f0 f1 f2 f3
    have hJ : wA.heap[w.heap.size]? = some (.cells #[.int .i64 j, .string ⟨(wordB j).toArray⟩, .int .i64 many] 60 (0, 0)) := by rw [← hwA]; exact (Below.heap_alloc _ _ _ (by simp)).trans (World.alloc_heap_new w _)
    have j0 := cell_at hJ 0
    have j1 := cell_at hJ 1
    simp at j0 j1
    go_enter Tryd.func88, Tryd.ntmps88
    go_wp2_with fail
    go_region
    all_goals go_wp2
    exact bodyPost_ret (results_box (p := 6) (u := 7) rfl _ _ (w.heap.size + 1) j 0 0 _ rfl (hxA.store j 0 0 _).drew) rfl (Or.inl ⟨hit.out, j, 0, 0, rfl, (below_store hbA (by omega) _ _ _ _).drew⟩)
theorem plus_bytes : (⟨(wordB ((7 : Nat) : Int)).toArray⟩ : ByteArray) = ⟨#[112, 108, 117, 115]⟩ := rfl
set_option maxHeartbeats 1000000 in
theorem beginPlus_any (ps : List ByteArray) (Bw g i : Nat) (s : ByteArray) (t : TypeId) (v : Value) (w : World) (hE : ErrAt w t v) (h : Left w Bw g ps i) (hi : i ≤ ps.length) (hlen : ps.length ≤ 1000) (hsz : ∀ p ∈ ps, p.size ≤ 1048576) :
    Calls Tryd.prog 92 #[.agg #[], .string s, .pointer (some ⟨Bw, 0, none⟩)] w (BeginPost ps Bw g i 7 s t v w) := by
  have hbA := bel2 w (.cells #[] 61) (.cells #[.int .i64 0, .int .i64 0, .int .i64 0, .slice none 0 0] 29)
  have hxA := begin_box w (.cells #[] 61)
  have hlA := h.lt
  have hlg := h.row.lt
  obtain ⟨wA, hwA⟩ : ∃ wA, (w.alloc (.cells #[] 61)).alloc (.cells #[.int .i64 0, .int .i64 0, .int .i64 0, .slice none 0 0] 29) = wA := ⟨_, rfl⟩
  rw [hwA] at hbA hxA
  by_cases he : (⟨(wordB ((7 : Nat) : Int)).toArray⟩ : ByteArray) = s
  · have hk := kindW_at (by decide) (by decide) he
    have hit : Hid (hitB 7 (bs s) = true) := by show _ = _; simp [hitB, hk]
    have hbe : (s.toList == [112, 108, 117, 115]) = true := by rw [Bool.beq_comm]; exact word_yes he
    by_cases hil : i < ps.length
    · have HR : Hid (headR numA (bs s :: (ps.map bs).drop i) = some (((7 : Nat) : Int), 0, (numAt 0 (bs ps[i])).1, (ps.map bs).drop (i + 1))) := by
        show _ = _
        rw [headR_cons, if_neg (sym_word (by decide) (by decide) hk), if_neg (by omega), if_pos (by omega), drop_words ps i hil]
        rfl
      have hnum := fun w => numberAt_any ps[i] 0 w (Nat.zero_le _) (hsz _ (List.getElem_mem hil))
      have hcast0 : ((0 : Nat) : Int) = 0 := rfl
      simp only [List.drop_zero, hcast0, Int.zero_add] at hnum
      have hnext := next_some ps Bw g i wA (h.below hbA) hil hlen
      generalize ps[i] = u at hnum hnext HR
      clear hk he
      generalize (numAt 0 (bs u)).1 = q at hnum HR
      go_enter Tryd.func92, Tryd.ntmps92
      go_wp2_with fail
      refine hnext.mono ?_
      rintro e w1 ⟨rfl, hg1, hl1⟩
      have hx1 := hxA.grown hg1 (fun e => by cases e; omega)
      go_wp2_with fail
      refine (hnum _).mono ?_
      rintro e w2 ⟨rfl, rfl⟩
      obtain ⟨z0, z1, z2, z3⟩ := hx1.cells
      have f0 := hx1.free 0
      have f1 := hx1.free 1
      have f2 := hx1.free 2
      have f3 := hx1.free 3
      go_wp2
      exact bodyPost_ret (results_box (p := 6) (u := 7) rfl _ _ (w.heap.size + 1) 7 0 q _ rfl (hx1.store 7 0 q _)) rfl (Or.inr ⟨hit.out, grown_store (grownBy_trans (below_by hbA _) hg1) (by omega) _ _ _ _, Or.inl ⟨0, q, i + 1, rfl, HR, by omega, by omega, hl1.store (by omega) (by omega) _ _ _ _⟩⟩)
    · obtain rfl : i = ps.length := by omega
      have HR : Hid (headR numA (bs s :: (ps.map bs).drop ps.length) = none) := by
        show _ = _
        have hd : (ps.map bs).drop ps.length = [] := List.drop_eq_nil_of_le (by rw [List.length_map]; exact Nat.le_refl _)
        rw [headR_cons, if_neg (sym_word (by decide) (by decide) hk), if_neg (by omega), if_pos (by omega), hd]
      have hnext := next_none ps Bw g wA t v (hE.below hbA) (h.below hbA)
      clear hk he
      go_enter Tryd.func92, Tryd.ntmps92
      go_wp2_with fail
      refine hnext.mono ?_
      rintro e w1 ⟨rfl, rfl⟩
      go_wp2
      exact ⟨rfl, Or.inr ⟨hit.out, below_by hbA _, Or.inr ⟨HR.out, rfl⟩⟩⟩
  · have hk := kindW_not (by decide) (by decide) he
    have hit : Hid (hitB 7 (bs s) = false) := by show _ = _; simp [hitB]; exact hk
    have hbe : (s.toList == [112, 108, 117, 115]) = false := by rw [Bool.beq_comm]; exact word_no he
    clear hk he
    obtain ⟨z0, z1, z2, z3⟩ := hxA.cells
    have f0 := hxA.free 0
    have f1 := hxA.free 1
    have f2 := hxA.free 2
    have f3 := hxA.free 3
    go_enter Tryd.func92, Tryd.ntmps92
    go_wp2
    exact bodyPost_ret (results_box (p := 6) (u := 7) rfl _ _ (w.heap.size + 1) 0 0 0 _ rfl (hxA.store 0 0 0 _)) rfl (Or.inl ⟨hit.out, 0, 0, 0, rfl, below_store hbA (by omega) _ _ _ _⟩)
/-- A kind, as the reading of words wants it. -/
structure KindB (j : Nat) (T : TypeId) (V : Value) (K1 Kb : Nat) : Prop where
  kids : ∀ w, Sem.run Tryd.prog (method 243 T V "loop.example/bellman/impl.kids") w = .ok (K1, V) w
  begin : ∀ w, Sem.run Tryd.prog (method 243 T V "loop.example/bellman/impl.begin") w = .ok (Kb, V) w
  enter1 : ∀ w, Sem.run Tryd.prog (callFunc K1 #[V]) w = .ok (.enter K1 #[V]) w
  enter2 : ∀ x y w, Sem.run Tryd.prog (callFunc Kb #[V, x, y]) w = .ok (.enter Kb #[V, x, y]) w
  kids_any : ∀ w, Calls Tryd.prog K1 #[V] w fun e w' => e = .returned (.int .i64 (kidsOf j)) ∧ Below w.heap.size w w'
  begin_any : ∀ (ps : List ByteArray) (Bw g i : Nat) (s : ByteArray) (t : TypeId) (v : Value) (w : World), ErrAt w t v → Left w Bw g ps i → i ≤ ps.length → ps.length ≤ 1000 → (∀ p ∈ ps, p.size ≤ 1048576) → s.size ≤ 1048576 →
    Calls Tryd.prog Kb #[V, .string s, .pointer (some ⟨Bw, 0, none⟩)] w (BeginPost ps Bw g i j s t v w)
theorem kindB_join (j : Nat) (many : Int) (h2 : 2 ≤ j) (h6 : j ≤ 6) (hk : kidsOf j = many) : KindB j 60 (.agg #[.int .i64 j, .string ⟨(wordB j).toArray⟩, .int .i64 many]) 91 88 where
  kids := fun _ => by kernel_rfl
  begin := fun _ => by kernel_rfl
  enter1 := fun _ => by kernel_rfl
  enter2 := fun _ _ _ => by kernel_rfl
  kids_any := (kindJoin j many _ (by omega) (by omega) hk).kids_any
  begin_any := fun ps Bw g i s t v w _ h hi _ _ _ => beginJoin_any ps Bw g i j many s t v w h hi h2 h6
theorem kindB_sym : KindB 1 58 (.agg #[]) 83 80 where
  kids := fun _ => by kernel_rfl
  begin := fun _ => by kernel_rfl
  enter1 := fun _ => by kernel_rfl
  enter2 := fun _ _ _ => by kernel_rfl
  kids_any := kindSym.kids_any
  begin_any := fun ps Bw g i s t v w _ h hi _ _ hs => beginSym_any ps Bw g i s t v w h hi hs
theorem kindB_plus : KindB 7 61 (.agg #[]) 95 92 where
  kids := fun _ => by kernel_rfl
  begin := fun _ => by kernel_rfl
  enter1 := fun _ => by kernel_rfl
  enter2 := fun _ _ _ => by kernel_rfl
  kids_any := kindPlus.kids_any
  begin_any := fun ps Bw g i s t v w hE h hi hl hsz _ => beginPlus_any ps Bw g i s t v w hE h hi hl hsz
set_option maxHeartbeats 1000000 in
theorem kindB_any (j : Nat) (h1 : 1 ≤ j) (h7 : j ≤ 7) : ∃ T V K1 Kb, KindB j T V K1 Kb ∧ ∀ w, Calls Tryd.prog 19 #[.int .i64 j] w fun e w' => e = .returned (.iface T V) ∧ w' = w := by
  have cs : j = 1 ∨ j = 2 ∨ j = 3 ∨ j = 4 ∨ j = 5 ∨ j = 6 ∨ j = 7 := by omega
  rcases cs with rfl | rfl | rfl | rfl | rfl | rfl | rfl
  · refine ⟨_, _, _, _, kindB_sym, fun w => ?_⟩
    go_enter Tryd.func19, Tryd.ntmps19
    go_wp2
    go_ret
    exact ⟨rfl, rfl⟩
  · refine ⟨_, _, _, _, kindB_join 2 2 (by decide) (by decide) (by decide), fun w => ?_⟩
    go_enter Tryd.func19, Tryd.ntmps19
    go_wp2
    go_ret
    exact ⟨rfl, rfl⟩
  · refine ⟨_, _, _, _, kindB_join 3 2 (by decide) (by decide) (by decide), fun w => ?_⟩
    go_enter Tryd.func19, Tryd.ntmps19
    go_wp2
    go_ret
    exact ⟨rfl, rfl⟩
  · refine ⟨_, _, _, _, kindB_join 4 2 (by decide) (by decide) (by decide), fun w => ?_⟩
    go_enter Tryd.func19, Tryd.ntmps19
    go_wp2
    go_ret
    exact ⟨rfl, rfl⟩
  · refine ⟨_, _, _, _, kindB_join 5 3 (by decide) (by decide) (by decide), fun w => ?_⟩
    go_enter Tryd.func19, Tryd.ntmps19
    go_wp2
    go_ret
    exact ⟨rfl, rfl⟩
  · refine ⟨_, _, _, _, kindB_join 6 3 (by decide) (by decide) (by decide), fun w => ?_⟩
    go_enter Tryd.func19, Tryd.ntmps19
    go_wp2
    go_ret
    exact ⟨rfl, rfl⟩
  · refine ⟨_, _, _, _, kindB_plus, fun w => ?_⟩
    go_enter Tryd.func19, Tryd.ntmps19
    go_wp2
    go_ret
    exact ⟨rfl, rfl⟩
end Go.Proofs.YtpkinlcinccccaaDoor
