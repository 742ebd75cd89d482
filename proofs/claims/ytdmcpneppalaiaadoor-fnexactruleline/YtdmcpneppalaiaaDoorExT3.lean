/- What the program's ExText answers. -/
import Derived.Test.YtdmcpneppalaiaaDoorExT2
import Derived.Test.YtdmcpneppalaiaaDoorExRow
import Derived.Test.YtdmcpneppalaiaaDoorInfoStr
namespace Go.Proofs.YtdmcpneppalaiaaDoor
open Go.ChangeShapes Go.WideShapes Go.ChangeAt Go.RowKit
set_option linter.unusedVariables false
set_option maxRecDepth 4000

def headB' (x : Hd) : ByteArray := ⟨(headT x.tri).toArray⟩
def strCells (l : List Hd) : List Value := l.map fun x => .string (headB' x)
theorem strCells_snoc (l : List Hd) (x : Hd) : strCells (l ++ [x]) = strCells l ++ [.string ⟨(headT (x.kd, x.sy, x.n)).toArray⟩] := by simp [strCells, headB', Hd.tri]
def textOf (kd sy n : Int) (F : Fo) : List UInt8 := if okX kd sy n F then textX kd sy n F else []

set_option maxHeartbeats 4000000 in
theorem implExText_any (kd sy n : Int) (a : Option Addr) (cap : Nat) (F : Fo) (w : World) (t : TypeId) (v : Value) (hE : ErrAt w t v) (h : Slc w a F) :
    Calls Tryd.prog 20 #[.agg #[.int .i64 kd, .int .i64 sy, .int .i64 n, .slice a F.len cap]] w fun e w' => e = .returned (.string ⟨(textOf kd sy n F).toArray⟩) ∧ Below w.heap.size w w' := by
  obtain ⟨w0, hw0⟩ : ∃ w0, w.alloc (.cells #[.int .i64 kd, .int .i64 sy, .int .i64 n, .slice a F.len cap] 31) = w0 := ⟨_, rfl⟩
  have hl := exList_box kd sy n a cap F w t v hE h hw0
  obtain ⟨x0, x1, x2, x3⟩ := box4 w (.int .i64 kd) (.int .i64 sy) (.int .i64 n) (.slice a F.len cap) 31
  rw [hw0] at x0 x1 x2 x3
  obtain ⟨i0, hi, hz0, hz1, hz2⟩ := info_str_parts
  go_enter Tryd.func20, Tryd.ntmps20
  go_wp2_with fail
  refine hl.mono ?_
  rintro e w1 ⟨hb1, ⟨ho, q, g, c, rfl, hq, hown⟩ | ⟨ho, rfl⟩⟩
  · have hR := row4_of hown
    have h5 : formX 5 kd sy n F = true := by simp only [okX, Bool.and_eq_true] at ho; exact ho.1
    have hq12 : q.length ≤ 12 ∧ 1 ≤ q.length := by
      have := congrArg List.length hq
      simp [preF_len] at this
      simp [okX] at ho
      omega
    have hgood : ∀ k (hk : k < q.length), Good q[k].kd q[k].sy q[k].n := by
      have hf : formF 5 (.cons kd sy n F .nil) = true := by
        have h5' := h5
        simp only [formX, Bool.and_eq_true] at h5'
        simp [formF, h5']
      have hg := good_all 5 _ hf
      have hpre : preF (.cons kd sy n F .nil) = (kd, sy, n) :: preF F := by simp [preF]
      rw [hpre, ← hq] at hg
      intro k hk
      exact hg (q[k]).tri (List.mem_map.2 ⟨q[k], List.getElem_mem hk, rfl⟩)
    clear hown x0 x1 x2 x3 hw0 hl
    go_wp2
    go_loopw [3, 5, 9] (fun v p i wr => ∃ k : Nat, k ≤ q.length ∧ i = .int .i64 k ∧ wr.ownsRow w.heap.size 9 1 v k (strCells (q.take k)) ∧ Row4 wr g q ∧ Below w.heap.size w wr) (fun _ _ i _ => q.length - (intOf i).toNat)
    case atStart => exact ⟨0, Nat.zero_le _, rfl, World.ownsRow_nil _ _ _ _, hR, hb1⟩
    case round =>
      obtain ⟨k, hk, rfl, hown, hRk, hb⟩ := hrel
      by_cases hlt : k < q.length
      · obtain ⟨c0, c1, c2, c3⟩ := hRk.at hlt
        obtain ⟨T, V, K, hK⟩ := kindT_any (hgood k hlt)
        have hsn : Hid (strCells (q.take (k + 1)) = strCells (q.take k) ++ [.string ⟨(headT (q[k].kd, q[k].sy, q[k].n)).toArray⟩]) := by show _ = _; rw [List.take_succ_eq_append_getElem hlt, strCells_snoc]
        generalize q[k] = x at c0 c1 c2 c3 hsn hK
        have hal := bel1 wr (.cells #[.int .i64 x.kd, .int .i64 x.sy, .int .i64 x.n, .slice x.a x.len x.cap] 31)
        have m1 := hK.head
        have m2 := hK.enter
        have hR2 := hRk.below hal
        have hb2 := hb.trans (hal.mono hb.size)
        go_wp2_with fail
        obtain ⟨W1, hW1⟩ : ∃ W1, (wr.alloc (.cells #[.int .i64 x.kd, .int .i64 x.sy, .int .i64 x.n, .slice x.a x.len x.cap] 31)).drew = W1 := ⟨_, rfl⟩
        obtain ⟨p0, p1, p2, p3⟩ := box4 wr (.int .i64 x.kd) (.int .i64 x.sy) (.int .i64 x.n) (.slice x.a x.len x.cap) 31
        have p0 : W1.cell? ⟨wr.heap.size, 0, none⟩ = some (.int .i64 x.kd) := by rw [← hW1]; exact p0
        have p1 : W1.cell? ⟨wr.heap.size, 1, none⟩ = some (.int .i64 x.sy) := by rw [← hW1]; exact p1
        have p2 : W1.cell? ⟨wr.heap.size, 2, none⟩ = some (.int .i64 x.n) := by rw [← hW1]; exact p2
        have p3 : W1.cell? ⟨wr.heap.size, 3, none⟩ = some (.slice x.a x.len x.cap) := by rw [← hW1]; exact p3
        have hbW : Below wr.heap.size wr W1 := by rw [← hW1]; exact hal.drew
        have hl12 : ¬ 140737488355328 < (k + 1) * 16 := by omega
        have hsz := hb.size
        go_region_with (first
          | (refine (hK.kind _).mono ?_; rintro e w2 ⟨rfl, rfl⟩)
          | (refine (hK.head_any _ _).mono ?_; rintro e w2 ⟨rfl, hb2'⟩; have hbA := hbW.trans (hb2'.mono hbW.size); have hal3 := bel1 w2 (.cells #[.string ⟨(headT (x.kd, x.sy, x.n)).toArray⟩] 9); obtain ⟨v', w3, hrun, r1, r2, r3⟩ := append_where (P := Tryd.prog) (w2.alloc (.cells #[.string ⟨(headT (x.kd, x.sy, x.n)).toArray⟩] 9)) w.heap.size 42 42 9 i0 (.string ByteArray.empty) 1 16 Tryd.underlying42 hi hz0 hz1 hz2 rfl (by decide) u3 k (strCells (q.take k)) (owns_below (owns_below hown hbA) hal3) ⟨w2.heap.size, 0, none⟩ 1 1 [.string ⟨(headT (x.kd, x.sy, x.n)).toArray⟩] rfl (new_str w2 _ _) (by intro u hu; simp at hu; subst hu; rfl) (by unfold maxLen; omega) (by omega) (by have := hbA.size; simp; omega); simp [go_sem] at hrun))
        all_goals have hbE : Below w.heap.size w w3 := ((hb.trans (hbA.mono hb.size)).trans (hal3.mono (Nat.le_trans hb.size hbA.size))).grown r2 (by have := hbA.size; simp; omega) (fun y hy => (hown.lt y hy).1)
        all_goals have hR3 : Row4 w3 g q := ((hRk.below hbA).below hal3).grownOf (by decide) (owns_below (owns_below hown hbA) hal3) r2
        all_goals clear hrun
        all_goals go_wp2
        all_goals exact ⟨⟨k + 1, by omega, by go_num, by rw [hsn.out]; exact r1, hR3, hbE⟩, by simp [intOf]; omega⟩
      · obtain rfl : k = q.length := by omega
        rw [List.take_length] at hown
        have hF12 : (textX kd sy n F).length ≤ 30 * (F.size + 1) := textX_len h5
        have hsz12 : F.size + 1 ≤ 12 := by simp [okX] at ho; omega
        have hto : textOf kd sy n F = textX kd sy n F := by simp [textOf, ho]
        have hmap : (q.map headB').map (·.data.toList) = ((kd, sy, n) :: preF F).map headT := by
          rw [← hq]; simp [headB', Hd.tri, Function.comp_def]
        have hjoin : Lib.join ((q.map headB').map (·.data.toList)) [32] = textX kd sy n F := by rw [hmap]; exact text_join h5
        rcases hown.2 with ⟨_, h0⟩ | ⟨gs, cs, cur, rfl, hbase, hg, hcn, _, hcs, htk⟩
        · omega
        · have hglt : gs < wr.heap.size := (Array.getElem?_eq_some_iff.1 hg).1
          have hj := Tryd.strings_Join gs 0 cs (q.map headB') ⟨#[32]⟩ wr
            (by
              intro j x hj
              have hjl : j < q.length := by have := (List.getElem?_eq_some_iff.1 hj).1; simpa using this
              rw [Nat.zero_add, cell_at hg]
              have := congrArg (fun l => l[j]?) htk
              simp only [List.getElem?_take] at this
              rw [if_pos (by omega)] at this
              rw [List.getElem?_map] at hj
              simp only [strCells, List.getElem?_map] at this
              rw [Array.getElem?_toList] at this
              rw [this]
              cases hqj : q[j]? with
              | none => rw [hqj] at hj; simp at hj
              | some y => rw [hqj] at hj; simp at hj; simp [hj])
            hglt (by simp; omega) (by simpa using hcn) (by show (Lib.join _ [32]).length ≤ _; rw [hjoin]; omega)
          rw [show (⟨#[32]⟩ : ByteArray).data.toList = [32] from rfl, hjoin, List.length_map] at hj
          clear hown hg htk hRk hR hq hgood
          go_wp2_with fail
          refine hj.mono ?_
          rintro e w2 ⟨rfl, hb2⟩
          go_wp2
          go_ret
          exact ⟨by rw [hto]; rfl, hb.trans (hb2.mono hb.size)⟩
  · have hto : textOf kd sy n F = [] := by simp [textOf, ho]
    clear x0 x1 x2 x3 hw0 hl
    go_wp2
    go_loopw [3, 5, 9] (fun v p i wr => v = .slice none 0 0 ∧ i = .int .i64 0 ∧ Below w.heap.size w wr) (fun _ _ i _ => 0)
    case atStart => exact ⟨rfl, rfl, hb1⟩
    case round =>
      obtain ⟨rfl, rfl, hb⟩ := hrel
      go_wp2
      go_ret
      exact ⟨by rw [hto]; rfl, hb⟩
end Go.Proofs.YtdmcpneppalaiaaDoor
