/- What the specification finds ahead of the parts, at any place among words. -/
import Derived.Test.YtpkinlcinccccaaDoorExRd1
import Derived.Test.YtpkinlcinccccaaDoorNum5
import Derived.Laws.ResultCell
import Derived.Laws.Rows
namespace Go.Proofs.YtpkinlcinccccaaDoor
open Go.ChangeShapes Go.WideShapes Go.ChangeAt Go.RowKit
set_option linter.unusedVariables false
set_option maxRecDepth 4000
theorem plus_size {s : ByteArray} (h : kindW (bs s) = 7) : s.size = 4 := by
  have h1 := (kindW_word (v := bs s) (by omega)).1
  rw [h] at h1
  have hl := congrArg List.length h1
  rw [bs_len] at hl
  rw [← hl]; rfl
set_option maxHeartbeats 1000000 in
theorem head_plus (s : ByteArray) (g len cap k : Nat) (w : World) (hlt : g < w.heap.size) (hcell : w.cell? ⟨g, k, none⟩ = some (.string s)) (hat : k < len) (hlen : len ≤ 1000) (hk : kindW (bs s) = 7) (q : Option Int)
    (ho : (q = none ∧ len = k + 1) ∨ ∃ u : ByteArray, q = numF (bs u) ∧ k + 1 < len ∧ w.cell? ⟨g, k + 1, none⟩ = some (.string u) ∧ u.size ≤ 1048576) :
    Calls Tryd.prog 37 #[.slice (some ⟨g, 0, none⟩) len cap, .int .i64 k] w fun e w' => e = .returned (.tuple #[.agg #[.int .i64 7, .int .i64 0, .int .i64 (q.getD 0), .slice none 0 0], .int .i64 (if q.isSome then (k : Int) + 2 else -1)]) ∧ Below w.heap.size w w' := by
  have hs1 : ((s.size : Int) == 1) = false := by have := plus_size hk; simp; omega
  obtain ⟨K, hK⟩ : ∃ K, kindW (bs s) = K := ⟨_, rfl⟩
  have HK : Hid (kindW (bs s) = K) := hK
  have H7 : Hid (K = 7) := hK.symm.trans hk
  clear hK hk
  have h20 : Hid ((if K < ((2 : Nat) : Int) then K else 0) = 0) := by
    show _ = _
    rw [H7.out]; rfl
  have Ho : Hid _ := ho
  clear ho
  go_enter Tryd.func37, Tryd.ntmps37
  go_wp2
  go_loopw [7] (fun i wr => ∃ j : Nat, 2 ≤ j ∧ j ≤ 8 ∧ i = .int .i64 j ∧ XBox wr (w.heap.size + 1) (if K < j then K else 0) 0 ∧ XBox wr w.heap.size 0 0 ∧ Below w.heap.size w wr) (fun i _ => 8 - (intOf i).toNat)
  case atStart => exact ⟨2, by omega, by omega, rfl, by rw [show (if K < ((2 : Nat) : Int) then K else 0) = 0 from h20.out]; exact xbox_two _ _, XBox.below ⟨heap_alloc_new _ _⟩ (below_new _ _), ((Below.refl _ _).alloc (Nat.le_refl _) _).alloc (by simp) _⟩
  case round =>
    obtain ⟨j, hj2, hj8, rfl, hx, hz, hb⟩ := hrel
    have hcell' := (hb.cell (p := ⟨g, k, none⟩) hlt).trans hcell
    by_cases hj : j ≤ 7
    · obtain ⟨hj', _⟩ : (j : Int) ≤ 7 ∧ True := ⟨by omega, trivial⟩
      have hbd : Below wr.heap.size wr wr.drew := (Below.refl _ _).drew
      have hj8' : (j : Int) < 8 := by omega
      have hj8n : j < 8 := by omega
      have hat' : (k : Int) < (len : Int) := by omega
      have hwd : wr.drew.heap.size = wr.heap.size := rfl
      by_cases he : (⟨(wordB j).toArray⟩ : ByteArray) = s
      · have hbe : (wordB (j : Int) == s.toList) = true := word_yes he
        have hKj : Hid (K = j) := HK.out.symm.trans (kindW_at hj2 hj he)
        clear he
        go_wp2_with fail
        go_region_with (go_at_call 30; refine (specWords_any _).mono ?_; rintro e w1 ⟨rfl, hb1, hcell1⟩; have hc : w1.cell? ⟨wr.heap.size, j, none⟩ = some (.string ⟨(wordB j).toArray⟩) := hcell1 j hj8n; have hcell2 := (hb1.cell (p := ⟨g, k, none⟩) (Nat.lt_of_lt_of_le hlt hb.size)).trans hcell')
        all_goals have hx1 := hx.below (hbd.trans hb1)
        all_goals have hz1 := hz.below (hbd.trans hb1)
        all_goals obtain ⟨y0, y1, y2, y3⟩ := hx1.cells
        all_goals have f0 := hx1.free 0
        all_goals have b01 : Below w.heap.size w w1 := hb.trans ((hbd.trans hb1).mono hb.size)
        all_goals go_wp2
        all_goals refine ⟨⟨j + 1, by omega, by omega, by go_num, ?_, hz1.other _ _ (by omega) _, b01.setCell (by simp) _⟩, by simp [intOf]; omega⟩
        all_goals rw [kind_step K j hKj.out]
        all_goals exact hx1.kind _
      · have hbe : (wordB (j : Int) == s.toList) = false := word_no he
        have hKj : Hid (K ≠ j) := fun e => kindW_not hj2 hj he (HK.out.trans e)
        clear he
        go_wp2_with fail
        go_region_with (go_at_call 30; refine (specWords_any _).mono ?_; rintro e w1 ⟨rfl, hb1, hcell1⟩; have hc : w1.cell? ⟨wr.heap.size, j, none⟩ = some (.string ⟨(wordB j).toArray⟩) := hcell1 j hj8n; have hcell2 := (hb1.cell (p := ⟨g, k, none⟩) (Nat.lt_of_lt_of_le hlt hb.size)).trans hcell')
        all_goals have hx1 := hx.below (hbd.trans hb1)
        all_goals have hz1 := hz.below (hbd.trans hb1)
        all_goals have b01 : Below w.heap.size w w1 := hb.trans ((hbd.trans hb1).mono hb.size)
        all_goals go_wp2
        all_goals refine ⟨⟨j + 1, by omega, by omega, by go_num, ?_, hz1, b01⟩, by simp [intOf]; omega⟩
        all_goals rw [← kind_same K j hKj.out]
        all_goals exact hx1
    · obtain rfl : j = 8 := by omega
      have hx8 : XBox wr (w.heap.size + 1) 7 0 := by
        have e : (if K < ((8 : Nat) : Int) then K else 0) = 7 := by rw [H7.out]; rfl
        rw [e] at hx; exact hx
      clear hx
      obtain ⟨y0, y1, y2, y3⟩ := hx8.cells
      obtain ⟨z0, z1, z2, z3⟩ := hz.cells
      have g2 := hx8.free 2
      have f0 := hz.free 0
      have f1 := hz.free 1
      have f2 := hz.free 2
      have f3 := hz.free 3
      rcases Ho.out with ⟨rfl, hl⟩ | ⟨u, hq, hl, hcu, hsu⟩
      · have hl' : (len : Int) ≤ (k : Int) + 1 := by omega
        have Hl : Hid (len = k + 1) := hl
        clear hl Ho
        go_wp2
        exact bodyPost_ret (results_head _ _ w.heap.size 7 0 0 rfl (hz.store 7 0).row) rfl ⟨rfl, below_store hb (Nat.le_refl _) _ _ _ _⟩
      · have hl' : ¬ (len : Int) ≤ (k : Int) + 1 := by omega
        have hl2 : (k : Int) + 1 < (len : Int) := by omega
        have hcu' := (hb.cell (p := ⟨g, k + 1, none⟩) hlt).trans hcu
        have Hq : Hid (q = numF (bs u)) := hq
        clear hq Ho
        go_wp2_with fail
        refine (l14Num_any u _ hsu).mono ?_
        rintro e w2 ⟨rfl, hw⟩
        rw [hw, ← Hq.out]
        clear hw
        cases q with
        | none =>
          simp only [numEnd, Option.getD_none, Option.isSome_none]
          go_wp2
          exact bodyPost_ret (results_head _ _ w.heap.size 7 0 0 rfl (hz.store 7 0).row) rfl ⟨rfl, below_store hb (Nat.le_refl _) _ _ _ _⟩
        | some n =>
          simp only [numEnd, Option.getD_some, Option.isSome_some]
          have hx9 := hx8.num n
          have hz9 := hz.other (w.heap.size + 1) 2 (by omega) (.int .i64 n)
          go_wp2
          exact bodyPost_ret (results_head _ _ w.heap.size 7 0 n rfl (hz9.store 7 n).row) rfl ⟨rfl, below_store (hb.setCell (by simp) _) (Nat.le_refl _) _ _ _ _⟩
end Go.Proofs.YtpkinlcinccccaaDoor
