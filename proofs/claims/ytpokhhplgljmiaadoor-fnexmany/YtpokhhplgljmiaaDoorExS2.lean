/- What the program's ExSyms answers. -/
import Derived.Test.YtpokhhplgljmiaaDoorExS1
import Derived.Test.YtpokhhplgljmiaaDoorExImpl
import Derived.Test.YtpokhhplgljmiaaDoorShelf
import Derived.Lib.RowBridge
namespace Go.Proofs.YtpokhhplgljmiaaDoor
open Go.ChangeShapes Go.WideShapes Go.ChangeAt Go.RowKit
set_option linter.unusedVariables false

/-- The names among parts. -/
def symsOf (l : List Hd) : List Int := namesT (l.map Hd.tri)
theorem symsOf_snoc (l : List Hd) (x : Hd) : symsOf (l ++ [x]) = symsOf l ++ (if x.kd = 1 then [x.sy] else []) := by
  simp only [symsOf, List.map_append, List.map_cons, List.map_nil, namesT_append]
  rw [show Hd.tri x = (x.kd, x.sy, x.n) from rfl, namesT_cons]
  simp [namesT]
theorem symsOf_len (l : List Hd) : (symsOf l).length ≤ l.length := by
  simp only [symsOf, namesT, List.length_map]
  exact Nat.le_trans (List.length_filter_le _ _) (by simp)

/-- A row of parts that can be read. -/
def Row4 (w : World) (g : Nat) (q : List Hd) : Prop := ∃ cur f, w.heap[g]? = some (.cells cur 25 f) ∧ cur.toList.take (q.length * 4) = hdCells q
theorem row4_of {w : World} {B g c : Nat} {q : List Hd} (h : w.ownsRow B 25 4 (.slice (some ⟨g, 0, none⟩) q.length c) q.length (hdCells q)) : Row4 w g q := by
  rcases h.2 with ⟨h, _⟩ | ⟨g2, c2, cur, h, _, h1, _, _, _, h4⟩
  · simp at h
  · simp only [Value.slice.injEq, Option.some.injEq, Addr.mk.injEq, and_true, true_and] at h
    obtain ⟨rfl, rfl⟩ := h
    exact ⟨cur, _, h1, h4⟩
theorem hdCells_len (q : List Hd) : (hdCells q).length = q.length * 4 := by
  induction q with
  | nil => rfl
  | cons x q ih => simp [hdCells] at ih ⊢; omega
theorem hdCells_at (q : List Hd) (k j : Nat) (hk : k < q.length) (hj : j < 4) : (hdCells q)[k * 4 + j]? = ([.int .i64 q[k].kd, .int .i64 q[k].sy, .int .i64 q[k].n, .slice q[k].a q[k].len q[k].cap] : List Value)[j]? := by
  induction q generalizing k with
  | nil => simp at hk
  | cons x q ih =>
    have hc : hdCells (x :: q) = [.int .i64 x.kd, .int .i64 x.sy, .int .i64 x.n, .slice x.a x.len x.cap] ++ hdCells q := by simp [hdCells]
    rw [hc]
    cases k with
    | zero => rw [List.getElem?_append_left (by simp; omega)]; simp
    | succ k =>
      rw [List.getElem?_append_right (by simp; omega)]
      have := ih k (by simpa using hk)
      simp only [List.length_cons, List.length_nil, List.getElem_cons_succ] at this ⊢
      rw [← this]
      congr 1
      omega
theorem Row4.at {w : World} {g : Nat} {q : List Hd} (h : Row4 w g q) {k : Nat} (hk : k < q.length) :
    w.cell? ⟨g, k * 4, none⟩ = some (.int .i64 q[k].kd) ∧ w.cell? ⟨g, k * 4 + 1, none⟩ = some (.int .i64 q[k].sy) ∧ w.cell? ⟨g, k * 4 + 2, none⟩ = some (.int .i64 q[k].n) ∧ w.cell? ⟨g, k * 4 + 3, none⟩ = some (.slice q[k].a q[k].len q[k].cap) := by
  obtain ⟨cur, f, h1, h2⟩ := h
  have hc : ∀ j, j < 4 → w.cell? ⟨g, k * 4 + j, none⟩ = ([.int .i64 q[k].kd, .int .i64 q[k].sy, .int .i64 q[k].n, .slice q[k].a q[k].len q[k].cap] : List Value)[j]? := by
    intro j hj
    rw [cell_at h1, ← hdCells_at q k j hk hj, ← h2, List.getElem?_take, if_pos (by omega)]
    simp
  exact ⟨hc 0 (by omega), hc 1 (by omega), hc 2 (by omega), hc 3 (by omega)⟩
theorem Row4.lt {w : World} {g : Nat} {q : List Hd} (h : Row4 w g q) : g < w.heap.size := by
  obtain ⟨cur, f, h1, _⟩ := h; exact (Array.getElem?_eq_some_iff.1 h1).1
theorem Row4.below {w w' : World} {g : Nat} {q : List Hd} (h : Row4 w g q) (hb : Below w.heap.size w w') : Row4 w' g q := by
  have hl := h.lt
  obtain ⟨cur, f, h1, h2⟩ := h
  exact ⟨cur, f, (hb.block g hl).trans h1, h2⟩
/-- An append to a list of numbers leaves it. -/
theorem Row4.grown {w w' : World} {g B k : Nat} {q : List Hd} {v : Value} {xs : List Value} (h : Row4 w g q) (ho : w.ownsRow B 3 1 v k xs) (hg : w.grownBy w' v.ownBlock) : Row4 w' g q := by
  have hl := h.lt
  obtain ⟨cur, f, h1, h2⟩ := h
  refine ⟨cur, f, (hg.block g hl ?_).trans h1, h2⟩
  intro e
  rcases ho.2 with ⟨rfl, _⟩ | ⟨g2, c2, cur2, rfl, _, h3, _⟩
  · simp [Value.ownBlock] at e
  · obtain rfl : g = g2 := by simpa [Value.ownBlock] using e
    rw [h1] at h3
    simp at h3

open Go.Sort in
/-- A row of numbers is laid anew. -/
theorem put_ints {w : World} {g : Nat} {t : TypeId} {cur : Array Value} (d : List Int) (h : w.heap[g]? = some (.cells cur t (0, 0))) (hd : d.length ≤ cur.size) :
    ∃ cur' : Array Value, (putRow (Value.int .i64) w g 0 d.toArray).heap[g]? = some (.cells cur' t (0, 0)) ∧ cur'.size = cur.size ∧ cur'.toList.take d.length = d.map (Value.int .i64) := by
  refine ⟨putCells (Value.int .i64) 0 d.toArray cur, ?_, by simp [putCells], ?_⟩
  · obtain ⟨hlt, hk⟩ := Array.getElem?_eq_some_iff.1 h
    show (w.heap.modify g _)[g]? = _
    rw [Array.getElem?_eq_getElem (by rw [Array.size_modify]; exact hlt), Array.getElem_modify_self, hk]
    rfl
  · refine List.ext_getElem (by simp [putCells]; omega) fun i h1 h2 => ?_
    simp at h2
    simp [putCells, h2]
open Go.Sort in
theorem put_other {w : World} {g b : Nat} (d : List Int) (hb : b ≠ g) : (putRow (Value.int .i64) w g 0 d.toArray).heap[b]? = w.heap[b]? := by
  show (w.heap.modify g _)[b]? = _
  rw [Array.getElem?_modify, if_neg (fun e => hb e.symm)]

open Go.Sort in
/-- Sorted, and doubles struck, in place. -/
theorem sort_compact (base g cap : Nat) (zs : List Int) (w : World) (hown : w.ownsRow base 3 1 (.slice (some ⟨g, 0, none⟩) zs.length cap) zs.length (intCells zs)) (n m : Nat) (os : Array Obj) {w2 w3 : World}
    (h2 : w2 = grow (putRow (Value.int .i64) (Sort.ahead w n) g 0 (zs.mergeSort fun x y => decide (x ≤ y)).toArray) os)
    (h3 : w3 = putRow (Value.int .i64) (Sort.ahead w2 m) g 0 (Lib.compact (zs.mergeSort fun x y => decide (x ≤ y)) ++ List.replicate ((zs.mergeSort fun x y => decide (x ≤ y)).length - (Lib.compact (zs.mergeSort fun x y => decide (x ≤ y))).length) 0).toArray) :
    w3.ownsRow base 3 1 (.slice (some ⟨g, 0, none⟩) (Lib.compact (zs.mergeSort fun x y => decide (x ≤ y))).length cap) (Lib.compact (zs.mergeSort fun x y => decide (x ≤ y))).length (intCells (Lib.compact (zs.mergeSort fun x y => decide (x ≤ y)))) ∧ Below g w w3 := by
  rcases hown.2 with ⟨h, _⟩ | ⟨g2, c2, cur, h, hbase, hg, hn, hcm, hcs, htk⟩
  · simp at h
  simp only [Value.slice.injEq, Option.some.injEq, Addr.mk.injEq, and_true, true_and] at h
  obtain ⟨rfl, rfl⟩ := h
  obtain ⟨ys, hys⟩ : ∃ ys, (zs.mergeSort fun x y => decide (x ≤ y)) = ys := ⟨_, rfl⟩
  have hyl : ys.length = zs.length := by rw [← hys]; exact List.length_mergeSort _
  rw [hys] at h2 h3 ⊢
  have hcl : (Lib.compact ys).length ≤ ys.length := Lib.compact_length_le ys
  have hglt : g < w.heap.size := (Array.getElem?_eq_some_iff.1 hg).1
  obtain ⟨cur1, g1, s1, t1⟩ := put_ints (w := Sort.ahead w n) ys hg (by omega)
  have hsz2 : w2.heap.size = w.heap.size + os.size := by rw [h2]; simp
  have g2 : w2.heap[g]? = some (.cells cur1 3 (0, 0)) := by rw [h2, heap_grow_old _ _ (by simpa using hglt)]; exact g1
  obtain ⟨cur2, g3, s3, t3⟩ := put_ints (w := Sort.ahead w2 m) (Lib.compact ys ++ List.replicate (ys.length - (Lib.compact ys).length) 0) g2 (by simp; omega)
  rw [← h3] at g3
  refine ⟨⟨by simp [intCells], .inr ⟨g, cap, cur2, rfl, hbase, g3, by omega, hcm, by omega, ?_⟩⟩, ?_⟩
  · have := congrArg (List.take (Lib.compact ys).length) t3
    rw [List.take_take, Nat.min_eq_left (by simp), List.map_append, List.take_left' (by simp)] at this
    rw [Nat.mul_one, this]
    rfl
  · refine ⟨by rw [h3, h2]; rfl, by rw [h3, h2]; rfl, by rw [h3, h2]; rfl, by rw [h3]; simp; omega, fun b hb => ?_⟩
    rw [h3, put_other _ (by omega)]
    show w2.heap[b]? = _
    rw [h2, heap_grow_old _ _ (by simp; omega), put_other _ (by omega)]
    rfl

set_option maxHeartbeats 4000000 in
theorem implExSyms_any (kd sy n : Int) (a : Option Addr) (cap : Nat) (F : Fo) (w : World) (t : TypeId) (v : Value) (hE : ErrAt w t v) (h : Slc w a F) :
    Calls Tryd.prog 9 #[.agg #[.int .i64 kd, .int .i64 sy, .int .i64 n, .slice a F.len cap]] w
      fun e w' => ∃ v, e = .returned v ∧ w'.ownsRow w.heap.size 3 1 v (symsX kd sy n F).length (intCells (symsX kd sy n F)) ∧ Below w.heap.size w w' := by
  obtain ⟨w0, hw0⟩ : ∃ w0, w.alloc (.cells #[.int .i64 kd, .int .i64 sy, .int .i64 n, .slice a F.len cap] 25) = w0 := ⟨_, rfl⟩
  have hl := exList_box kd sy n a cap F w t v hE h hw0
  obtain ⟨x0, x1, x2, x3⟩ := box4 w (.int .i64 kd) (.int .i64 sy) (.int .i64 n) (.slice a F.len cap) 25
  rw [hw0] at x0 x1 x2 x3
  obtain ⟨i0, hi, hz0, hz1, hz2⟩ := info_int_parts
  go_enter Tryd.func9, Tryd.ntmps9
  go_wp2_with fail
  refine hl.mono ?_
  rintro e w1 ⟨hb1, ⟨ho, q, g, c, rfl, hq, hown⟩ | ⟨ho, rfl⟩⟩
  · have hR := row4_of hown
    have hq12 : q.length ≤ 12 := by
      have := congrArg List.length hq
      simp [preF_len] at this
      simp [okX] at ho
      omega
    clear hown x0 x1 x2 x3 hw0 hl
    go_wp2
    go_loopw [3, 5, 9] (fun v p i wr => ∃ k : Nat, k ≤ q.length ∧ i = .int .i64 k ∧ wr.ownsRow w.heap.size 3 1 v (symsOf (q.take k)).length (intCells (symsOf (q.take k))) ∧ Row4 wr g q ∧ Below w.heap.size w wr) (fun _ _ i _ => q.length - (intOf i).toNat)
    case atStart => exact ⟨0, Nat.zero_le _, rfl, World.ownsRow_nil _ _ _ _, hR, hb1⟩
    case round =>
      obtain ⟨k, hk, rfl, hown, hRk, hb⟩ := hrel
      by_cases hlt : k < q.length
      · obtain ⟨c0, c1, c2, c3⟩ := hRk.at hlt
        have hsn : symsOf (q.take (k + 1)) = symsOf (q.take k) ++ (if q[k].kd = 1 then [q[k].sy] else []) := by
          rw [List.take_succ_eq_append_getElem hlt, symsOf_snoc]
        have hle := symsOf_len (q.take k)
        have hlk : (q.take k).length ≤ k := List.length_take_le _ _
        generalize q[k] = x at c0 c1 c2 c3 hsn
        have hal := bel1 wr (.cells #[.int .i64 x.kd, .int .i64 x.sy, .int .i64 x.n, .slice x.a x.len x.cap] 25)
        by_cases hkd : x.kd = 1
        · have hy : Hid (symsOf (q.take (k + 1)) = symsOf (q.take k) ++ [x.sy]) := by show _ = _; rw [hsn, if_pos hkd]
          clear hsn
          rw [hkd] at c0 hal
          clear hkd
          have hR2 := hRk.below hal
          have hb2 := hb.trans (hal.mono hb.size)
          go_wp2_with (at_builtin; refine wpList_append_own _ rfl _ _ 29 rfl w.heap.size 3 i0 (.int .i64 0) 1 8 Tryd.underlying29 hi hz0 hz1 hz2 rfl (by decide) _ _ _ rfl ((hown.alloc _).alloc _) ⟨wr.heap.size + 1, 0, none⟩ 1 1 [.int .i64 x.sy] rfl rfl ?c1 ?c2 ?c3 ?c4 ?c5 ?_)
          case c1 => simpa using new_int (wr.alloc (.cells #[.int .i64 1, .int .i64 x.sy, .int .i64 x.n, .slice x.a x.len x.cap] 25)) x.sy 3
          case c2 => intro u hu; simp at hu; subst hu; rfl
          case c3 => unfold maxLen; omega
          case c4 => omega
          case c5 => have := hb.size; simp; omega
          intro v' w2 hown' hgr _
          have hal2 := bel1 (wr.alloc (.cells #[.int .i64 1, .int .i64 x.sy, .int .i64 x.n, .slice x.a x.len x.cap] 25)) (.cells #[.int .i64 x.sy] 3)
          have hbe : Below w.heap.size w w2 := (hb2.trans (hal2.mono hb2.size)).grown hgr (by have := hb.size; simp; omega) (fun x hx => (hown.lt x hx).1)
          have hR3 := (hR2.below hal2).grown ((hown.alloc _).alloc _) hgr
          go_wp2
          refine ⟨⟨k + 1, by omega, by go_num, ?_, hR3, hbe⟩, by simp [intOf]; omega⟩
          rw [hy.out, intCells_snoc, List.length_append]
          exact hown'
        · have hy : Hid (symsOf (q.take (k + 1)) = symsOf (q.take k)) := by show _ = _; rw [hsn, if_neg hkd, List.append_nil]
          clear hsn
          have bk : (x.kd == 1) = false := by simpa using hkd
          have hR2 := hRk.below hal
          have hb2 := hb.trans (hal.mono hb.size)
          go_wp2
          refine ⟨⟨k + 1, by omega, by go_num, ?_, hR2, hb2⟩, by simp [intOf]; omega⟩
          rw [hy.out]
          exact hown.alloc _
      · rw [List.take_of_length_le (by omega)] at hown
        have hsy : symsOf q = namesT ((kd, sy, n) :: preF F) := by rw [symsOf, hq]
        have heq := syms_eq ho
        rw [← hsy] at heq
        have hql := symsOf_len q
        rcases hown.2 with ⟨rfl, h0⟩ | ⟨gs, cs, cur, rfl, hbase, hg, hcn, _, hcs, htk⟩
        · have hnil : symsOf q = [] := List.eq_nil_of_length_eq_zero h0
          go_wp2_with fail
          refine (Tryd.slices_Sort_int_none none 0 _).mono ?_
          rintro e w2 ⟨rfl, rfl⟩
          go_wp2_with fail
          refine (Tryd.slices_Compact_int_empty none 0 _).mono ?_
          rintro e w3 ⟨rfl, rfl⟩
          go_wp2
          go_ret
          have hx : symsX kd sy n F = [] := by rw [← heq, hnil]; simp [Lib.compact, Lib.compactUpTo]
          refine ⟨_, rfl, ?_, hb⟩
          rw [hx]
          exact World.ownsRow_nil _ _ _ _
        · have hH : Sort.Holds (Value.int .i64) wr gs 0 (symsOf q).toArray := by
            intro j hj
            simp at hj
            refine ⟨?_, by simp [World.frozen?, hg]⟩
            rw [Nat.zero_add, cell_at hg, getElem!_pos _ j (by simpa using hj)]
            have := congrArg (fun l => l[j]?) htk
            simp only [List.getElem?_take] at this
            rw [if_pos (by omega)] at this
            simp [intCells, hj] at this
            simpa using this
          have hglt : gs < wr.heap.size := (Array.getElem?_eq_some_iff.1 hg).1
          obtain ⟨zs, hzs⟩ : ∃ zs, symsOf q = zs := ⟨_, rfl⟩
          rw [hzs] at hown hH heq hql hcn
          have hsc := sort_compact w.heap.size gs cs zs wr hown
          have hso := Tryd.slices_Sort_int gs 0 cs zs wr hH hglt (by omega)
          have hln : (symsOf q).length = zs.length := by rw [hzs]
          clear hown hg htk hRk hR hq hsy hzs
          rw [hln]
          go_wp2_with fail
          refine hso.mono ?_
          rintro e w2 ⟨rfl, nd, os, hw2⟩
          have hH2 : Sort.Holds (Value.int .i64) w2 gs 0 (zs.mergeSort fun x y => decide (x ≤ y)).toArray := by
            rw [hw2]
            exact Sort.holds_grow _ _ _ _ _ _ (by simpa using hglt) (Sort.holds_putRow _ _ _ _ _ _ (Sort.holds_ahead _ _ _ _ _ _ hH) (by simp))
          have hlm : Hid (zs.length = (zs.mergeSort fun x y => decide (x ≤ y)).length) := by show _ = _; simp
          have hco := Tryd.slices_Compact_int gs 0 cs (zs.mergeSort fun x y => decide (x ≤ y)) w2 hH2 (by simp; omega) (by simp; omega)
          rw [← hlm.out] at hco
          have hw2' : Hid (w2 = _) := hw2
          clear hw2
          go_wp2_with fail
          refine hco.mono ?_
          rintro e w3 ⟨rfl, md, hw3⟩
          rw [hlm.out] at hw3
          obtain ⟨r1, r2⟩ := hsc nd md os hw2'.out hw3
          clear hw3
          rw [heq] at r1
          go_wp2
          go_ret
          exact ⟨_, rfl, r1, hb.trans (r2.mono hbase)⟩
  · have hx : symsX kd sy n F = [] := by simp [symsX, ho]
    clear x0 x1 x2 x3 hw0 hl
    go_wp2
    go_loopw [3, 5, 9] (fun v p i wr => v = .slice none 0 0 ∧ i = .int .i64 0 ∧ Below w.heap.size w wr) (fun _ _ i _ => 0)
    case atStart => exact ⟨rfl, rfl, hb1⟩
    case round =>
      obtain ⟨rfl, rfl, hb⟩ := hrel
      go_wp2_with fail
      refine (Tryd.slices_Sort_int_none none 0 _).mono ?_
      rintro e w2 ⟨rfl, rfl⟩
      go_wp2_with fail
      refine (Tryd.slices_Compact_int_empty none 0 _).mono ?_
      rintro e w3 ⟨rfl, rfl⟩
      go_wp2
      go_ret
      refine ⟨_, rfl, ?_, hb⟩
      rw [hx]
      exact World.ownsRow_nil _ _ _ _
end Go.Proofs.YtpokhhplgljmiaaDoor
