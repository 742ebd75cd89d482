/- What the specification finds ahead of the parts, at a place among words: a letter, or a word of a kind but plus. -/
import Derived.Test.YtpkinlcinccccaaDoorExRd
import Derived.Test.YtpkinlcinccccaaDoorPieces
import Derived.Test.YtpkinlcinccccaaDoorExBox
import Derived.Laws.ResultCell
import Derived.Laws.Rows
namespace Go.Proofs.YtpkinlcinccccaaDoor
open Go.ChangeShapes Go.WideShapes Go.ChangeAt Go.RowKit
set_option linter.unusedVariables false
set_option maxRecDepth 4000
/-- A box of one without kids. -/
structure XBox (w : World) (b : Nat) (kd n : Int) : Prop where
  row : w.heap[b]? = some (.cells #[.int .i64 kd, .int .i64 0, .int .i64 n, .slice none 0 0] 29 (0, 0))
theorem XBox.lt {w : World} {b : Nat} {kd n : Int} (h : XBox w b kd n) : b < w.heap.size := (Array.getElem?_eq_some_iff.1 h.row).1
theorem XBox.below {w w' : World} {b : Nat} {kd n : Int} (h : XBox w b kd n) (hb : Below w.heap.size w w') : XBox w' b kd n :=
  ⟨(hb.block b h.lt).trans h.row⟩
theorem XBox.cells {w : World} {b : Nat} {kd n : Int} (h : XBox w b kd n) : w.cell? ⟨b, 0, none⟩ = some (.int .i64 kd) ∧ w.cell? ⟨b, 1, none⟩ = some (.int .i64 0) ∧ w.cell? ⟨b, 2, none⟩ = some (.int .i64 n) ∧ w.cell? ⟨b, 3, none⟩ = some (.slice none 0 0) :=
  ⟨cell_at h.row 0, cell_at h.row 1, cell_at h.row 2, cell_at h.row 3⟩
theorem XBox.free {w : World} {b : Nat} {kd n : Int} (h : XBox w b kd n) (i : Nat) : w.frozen? ⟨b, i, none⟩ = false := Lib.frozen_of_heap h.row i
theorem XBox.kind {w : World} {b : Nat} {kd n : Int} (h : XBox w b kd n) (k : Int) : XBox (w.setCell ⟨b, 0, none⟩ (.int .i64 k)) b k n := ⟨heap_setCell_same _ _ _ _ _ _ h.row⟩
theorem XBox.num {w : World} {b : Nat} {kd n : Int} (h : XBox w b kd n) (k : Int) : XBox (w.setCell ⟨b, 2, none⟩ (.int .i64 k)) b kd k := ⟨heap_setCell_same _ _ _ _ _ _ h.row⟩
def NoLet (s : ByteArray) : Prop := s.size ≠ 1 ∨ (∃ h : s.size = 1, ¬ 97 ≤ (s[0].toNat : Int)) ∨ (∃ h : s.size = 1, 97 ≤ (s[0].toNat : Int) ∧ ¬ (s[0].toNat : Int) ≤ 101)
theorem kindW_at {s : ByteArray} {j : Nat} (h2 : 2 ≤ j) (h7 : j ≤ 7) (h : (⟨(wordB j).toArray⟩ : ByteArray) = s) : kindW (bs s) = j := by
  subst h
  have : j = 2 ∨ j = 3 ∨ j = 4 ∨ j = 5 ∨ j = 6 ∨ j = 7 := by omega
  rcases this with rfl | rfl | rfl | rfl | rfl | rfl <;> decide
theorem kindW_not {s : ByteArray} {j : Nat} (h2 : 2 ≤ j) (h7 : j ≤ 7) (h : ¬ (⟨(wordB j).toArray⟩ : ByteArray) = s) : kindW (bs s) ≠ j := by
  intro e
  apply h
  have h0 : kindW (bs s) ≠ 0 := by omega
  have := (kindW_word h0).1
  rw [e] at this
  rw [this]
  rfl
theorem kind_step (K : Int) (j : Nat) (hK : K = j) : (if K < ((j + 1 : Nat) : Int) then K else 0) = j := by rw [if_pos (by omega)]; exact hK
theorem kind_same (K : Int) (j : Nat) (hK : K ≠ j) : (if K < (j : Int) then K else 0) = if K < ((j + 1 : Nat) : Int) then K else 0 := by
  by_cases h : K < (j : Int)
  · rw [if_pos h, if_pos (by omega)]
  · rw [if_neg h, if_neg (by omega)]
theorem word_yes {l : List UInt8} {s : ByteArray} (h : (⟨l.toArray⟩ : ByteArray) = s) : (l == s.toList) = true := by
  subst h
  rw [ByteArray.toList_eq]; simp
theorem word_no {l : List UInt8} {s : ByteArray} (h : ¬ (⟨l.toArray⟩ : ByteArray) = s) : (l == s.toList) = false := by
  rw [beq_eq_false_iff_ne]
  intro e
  apply h
  rw [ByteArray.toList_eq] at e
  apply ByteArray.ext
  show l.toArray = s.data
  rw [e]
theorem XBox.other {w : World} {b : Nat} {kd n : Int} (h : XBox w b kd n) (b' i : Nat) (hb : b ≠ b') (v : Value) : XBox (w.setCell ⟨b', i, none⟩ v) b kd n := ⟨(Below.heap_setCell _ _ _ _ hb).trans h.row⟩
theorem xbox_two (w : World) (o : Obj) : XBox ((w.alloc o).alloc (.cells #[.int .i64 0, .int .i64 0, .int .i64 0, .slice none 0 0] 29)) (w.heap.size + 1) 0 0 := ⟨by
  have := heap_alloc_new (w.alloc o) (.cells #[.int .i64 0, .int .i64 0, .int .i64 0, .slice none 0 0] 29)
  simpa using this⟩
theorem kindW_le (v : Wd) : 0 ≤ kindW v ∧ kindW v ≤ 7 := by
  by_cases h : kindW v = 0
  · omega
  · have := (kindW_word h).2; omega
theorem XBox.store {w : World} {b : Nat} {kd n : Int} (h : XBox w b kd n) (k m : Int) : XBox ((((w.setCell ⟨b, 0, none⟩ (.int .i64 k)).setCell ⟨b, 1, none⟩ (.int .i64 0)).setCell ⟨b, 2, none⟩ (.int .i64 m)).setCell ⟨b, 3, none⟩ (.slice none 0 0)) b k m :=
  ⟨heap_setCell_same _ _ _ _ _ _ (heap_setCell_same _ _ _ _ _ _ (heap_setCell_same _ _ _ _ _ _ (heap_setCell_same _ _ _ _ _ _ h.row)))⟩
theorem below_store {w w' : World} {B b : Nat} (h : Below B w w') (hb : B ≤ b) (v0 v1 v2 v3 : Value) : Below B w ((((w'.setCell ⟨b, 0, none⟩ v0).setCell ⟨b, 1, none⟩ v1).setCell ⟨b, 2, none⟩ v2).setCell ⟨b, 3, none⟩ v3) :=
  (((h.setCell hb _).setCell hb _).setCell hb _).setCell hb _
theorem results_head (tmps : Array Value) (w : World) (g : Nat) (kd sy n : Int) (hp : tmps.getD 4 undef = .pointer (some ⟨g, 0, none⟩)) (hg : w.heap[g]? = some (.cells #[.int .i64 kd, .int .i64 sy, .int .i64 n, .slice none 0 0] 29 (0, 0))) :
    (results Tryd.f37 tmps).run Tryd.prog w = .ok (.tuple #[.agg #[.int .i64 kd, .int .i64 sy, .int .i64 n, .slice none 0 0], tmps.getD 5 undef]) w := by
  rw [results_cell_tmp (p := 4) (u := 5) (ty := 29) rfl, hp]
  have hl := run_loadVar_row w g 29 29 _ (0, 0) _ hg Tryd.underlying29 rfl (by kernel_rfl)
  simp [asAddr, hl, Result.andThen]
set_option maxHeartbeats 1000000 in
theorem head_letter (s : ByteArray) (g len cap k : Nat) (w : World) (hlt : g < w.heap.size) (hcell : w.cell? ⟨g, k, none⟩ = some (.string s)) (hat : k < len) (hlen : len ≤ 1000) (h1 : s.size = 1) (hr : 97 ≤ (s[0].toNat : Int) ∧ (s[0].toNat : Int) ≤ 101) :
    Calls Tryd.prog 37 #[.slice (some ⟨g, 0, none⟩) len cap, .int .i64 k] w fun e w' => e = .returned (.tuple #[.agg #[.int .i64 1, .int .i64 ((s[0].toNat : Int) - 97), .int .i64 0, .slice none 0 0], .int .i64 (k + 1)]) ∧ Below w.heap.size w w' := by
  have hs1 : ((s.size : Int) == 1) = true := by simp; omega
  obtain ⟨hr1, hr2⟩ := hr
  go_enter Tryd.func37, Tryd.ntmps37
  go_wp2
  exact bodyPost_ret (results_head _ _ w.heap.size 1 ((s[0].toNat : Int) - 97) 0 rfl ((heap_alloc_old _ _ (by simp)).trans (heap_alloc_new _ _))) rfl ⟨rfl, ((Below.refl _ _).alloc (Nat.le_refl _) _).alloc (by simp) _⟩
set_option maxHeartbeats 1000000 in
theorem head_words (s : ByteArray) (g len cap k : Nat) (w : World) (hlt : g < w.heap.size) (hcell : w.cell? ⟨g, k, none⟩ = some (.string s)) (hat : k < len) (hlen : len ≤ 1000) (hn : NoLet s) (hk : kindW (bs s) ≠ 7) :
    Calls Tryd.prog 37 #[.slice (some ⟨g, 0, none⟩) len cap, .int .i64 k] w fun e w' => e = .returned (.tuple #[.agg #[.int .i64 (kindW (bs s)), .int .i64 0, .int .i64 0, .slice none 0 0], .int .i64 (if kindW (bs s) = 0 then -1 else k + 1)]) ∧ Below w.heap.size w w' := by
  have hn0 := hn
  obtain ⟨K, hK⟩ : ∃ K, kindW (bs s) = K := ⟨_, rfl⟩
  have HK : Hid (kindW (bs s) = K) := hK
  rw [hK] at hk ⊢
  clear hK
  have h20 : Hid ((if K < ((2 : Nat) : Int) then K else 0) = 0) := by
    show _ = _
    by_cases h0 : kindW (bs s) = 0
    · rw [HK.out] at h0; subst h0; rfl
    · have := (kindW_word h0).2.1; rw [HK.out] at this; exact if_neg (by omega)
  have hn' : ((s.size : Int) == 1) = false ∨ (∃ h : s.size = 1, ((s.size : Int) == 1) = true ∧ ¬ 97 ≤ (s[0].toNat : Int)) ∨ (∃ h : s.size = 1, ((s.size : Int) == 1) = true ∧ 97 ≤ (s[0].toNat : Int) ∧ ¬ (s[0].toNat : Int) ≤ 101) := by
    rcases hn with h1 | ⟨h1, h2⟩ | ⟨h1, h2⟩
    · exact Or.inl (by simp; omega)
    · exact Or.inr (Or.inl ⟨h1, by simp; omega, h2⟩)
    · exact Or.inr (Or.inr ⟨h1, by simp; omega, h2⟩)
  clear hn hn0
  rcases hn' with hs1 | ⟨h1, hs1, h2⟩ | ⟨h1, hs1, h2, h3⟩
  all_goals
    go_enter Tryd.func37, Tryd.ntmps37
    go_wp2
    go_loopw [7] (fun i wr => ∃ j : Nat, 2 ≤ j ∧ j ≤ 8 ∧ i = .int .i64 j ∧ XBox wr (w.heap.size + 1) (if K < j then K else 0) 0 ∧ XBox wr w.heap.size 0 0 ∧ Below w.heap.size w wr) (fun i _ => 8 - (intOf i).toNat)
    case atStart => exact ⟨2, by omega, by omega, rfl, by rw [show (if K < ((2 : Nat) : Int) then K else 0) = 0 from h20.out]; exact xbox_two _ _, XBox.below ⟨heap_alloc_new _ _⟩ (below_new _ _), ((Below.refl _ _).alloc (Nat.le_refl _) _).alloc (by simp) _⟩
    case round =>
      obtain ⟨j, hj2, hj8, rfl, hx, hz, hb⟩ := hrel
      have hcell' := (hb.cell (p := ⟨g, k, none⟩) hlt).trans hcell
      by_cases hj : j ≤ 7
      · obtain ⟨hj', _⟩ : (j : Int) ≤ 7 ∧ True := ⟨by omega, trivial⟩
        have hbd : Below wr.heap.size wr wr.drew := (Below.refl _ _).drew
        have hj8' : (j : Int) < 8 := by omega
        have hj8n : j < 8 := by omega
        have hat' : (k : Int) < (len : Int) := by omega
        have hwd : wr.drew.heap.size = wr.heap.size := rfl
        by_cases he : (⟨(wordB j).toArray⟩ : ByteArray) = s
        · have hbe : (wordB (j : Int) == s.toList) = true := word_yes he
          have hKj : Hid (K = j) := HK.out.symm.trans (kindW_at hj2 hj he)
          clear he
          go_wp2_with fail
          go_region_with (go_at_call 30; refine (specWords_any _).mono ?_; rintro e w1 ⟨rfl, hb1, hcell1⟩; have hc : w1.cell? ⟨wr.heap.size, j, none⟩ = some (.string ⟨(wordB j).toArray⟩) := hcell1 j hj8n; have hcell2 := (hb1.cell (p := ⟨g, k, none⟩) (Nat.lt_of_lt_of_le hlt hb.size)).trans hcell')
          all_goals have hx1 := hx.below (hbd.trans hb1)
          all_goals have hz1 := hz.below (hbd.trans hb1)
          all_goals obtain ⟨y0, y1, y2, y3⟩ := hx1.cells
          all_goals have f0 := hx1.free 0
          all_goals have b01 : Below w.heap.size w w1 := hb.trans ((hbd.trans hb1).mono hb.size)
          all_goals go_wp2
          all_goals refine ⟨⟨j + 1, by omega, by omega, by go_num, ?_, hz1.other _ _ (by omega) _, b01.setCell (by simp) _⟩, by simp [intOf]; omega⟩
          all_goals rw [kind_step K j hKj.out]
          all_goals exact hx1.kind _
        · have hbe : (wordB (j : Int) == s.toList) = false := word_no he
          have hKj : Hid (K ≠ j) := fun e => kindW_not hj2 hj he (HK.out.trans e)
          clear he
          go_wp2_with fail
          go_region_with (go_at_call 30; refine (specWords_any _).mono ?_; rintro e w1 ⟨rfl, hb1, hcell1⟩; have hc : w1.cell? ⟨wr.heap.size, j, none⟩ = some (.string ⟨(wordB j).toArray⟩) := hcell1 j hj8n; have hcell2 := (hb1.cell (p := ⟨g, k, none⟩) (Nat.lt_of_lt_of_le hlt hb.size)).trans hcell')
          all_goals have hx1 := hx.below (hbd.trans hb1)
          all_goals have hz1 := hz.below (hbd.trans hb1)
          all_goals have b01 : Below w.heap.size w w1 := hb.trans ((hbd.trans hb1).mono hb.size)
          all_goals go_wp2
          all_goals refine ⟨⟨j + 1, by omega, by omega, by go_num, ?_, hz1, b01⟩, by simp [intOf]; omega⟩
          all_goals rw [← kind_same K j hKj.out]
          all_goals exact hx1
      · obtain rfl : j = 8 := by omega
        have hKb := kindW_le (bs s)
        rw [HK.out] at hKb
        have hx8 : XBox wr (w.heap.size + 1) K 0 := by
          have e : (if K < ((8 : Nat) : Int) then K else 0) = K := if_pos (by omega)
          rw [e] at hx; exact hx
        clear hx
        obtain ⟨y0, y1, y2, y3⟩ := hx8.cells
        obtain ⟨z0, z1, z2, z3⟩ := hz.cells
        have f0 := hz.free 0
        have f1 := hz.free 1
        have f2 := hz.free 2
        have f3 := hz.free 3
        have bk7 : (K == 7) = false := by simpa using hk
        by_cases h0 : K = 0
        · have bk0 : (K == 0) = true := by simpa using h0
          go_wp2
          exact bodyPost_ret (results_head _ _ w.heap.size 0 0 0 rfl (hz.store 0 0).row) rfl ⟨rfl, below_store hb (Nat.le_refl _) _ _ _ _⟩
        · have bk0 : (K == 0) = false := by simpa using h0
          go_wp2
          exact bodyPost_ret (results_head _ _ w.heap.size K 0 0 rfl (hz.store K 0).row) rfl ⟨rfl, below_store hb (Nat.le_refl _) _ _ _ _⟩
end Go.Proofs.YtpkinlcinccccaaDoor
