/- What is looked for, as the laws draw it; one with one part more; what is not ok has no text. -/
import Derived.Test.YtpokhhplgljmiaaDoorDrX3
import Derived.Test.YtpokhhplgljmiaaDoorExImpl
namespace Go.Proofs.YtpokhhplgljmiaaDoor
open Go.ChangeShapes Go.WideShapes Go.ChangeAt Go.RowKit Go.Deep
set_option linter.unusedVariables false
set_option maxRecDepth 4000

theorem xb_below {w w1 w2 : World} {B R : Nat} (hb : Below B w w1) (hg : w1.grownBy w2 (some R)) (hR : B ≤ R) (hs : B ≤ w1.heap.size) : Below B w w2 :=
  ⟨hg.1.trans hb.os, hg.2.trans hb.tape, hg.3.trans hb.output, Nat.le_trans hb.size hg.4, fun b hl => (hg.5 b (by omega) (fun e => by have := Option.some.inj e; omega)).trans (hb.block b hl)⟩
/-- What a draw hands back. -/
def DrawnX (w : World) (e : Ending) (w' : World) : Prop :=
  ∃ (kd sy n : Int) (p : Option Addr) (c : Nat) (F : Fo), e = .returned (.agg #[.int .i64 kd, .int .i64 sy, .int .i64 n, .slice p F.len c]) ∧ Slc w' p F ∧ F.len ≤ 3 ∧ F.size ≤ 2000 ∧ (-1 ≤ kd ∧ kd ≤ 21 ∧ -1 ≤ sy ∧ sy ≤ 21 ∧ -1 ≤ n ∧ n ≤ 21) ∧ Below w.heap.size w w'

set_option maxHeartbeats 1000000 in
theorem drawExOk_any (a : Option Addr) (cap : Nat) (l : List Int) (w : World) (h : Bytes w a l) (hc : l.length ≤ cap) :
    Calls Tryd.prog 5 #[.slice a l.length cap] w (DrawnX w) := by
  have hb0 := xBelow_new w (.cells #[.int .i64 0, .int .i64 0, .int .i64 0, .slice none 0 0] 25)
  have h00 : PBox (w.alloc (.cells #[.int .i64 0, .int .i64 0, .int .i64 0, .slice none 0 0] 25)) w.heap.size 0 0 0 (.slice none 0 0) := ⟨heap_alloc_new _ _⟩
  obtain ⟨w0, hw0⟩ : ∃ w0, w.alloc (.cells #[.int .i64 0, .int .i64 0, .int .i64 0, .slice none 0 0] 25) = w0 := ⟨_, rfl⟩
  rw [hw0] at hb0 h00
  have hs0 := h00.lt
  go_enter Tryd.func5, Tryd.ntmps5
  go_wp2_with fail
  refine (l14Open_any _ _ l _ (h.below hb0) hc).mono ?_
  rintro e w1 ⟨rfl, hR1, hb1, hs1⟩
  have h01 := h00.below hb1
  have b01 := hb0.trans (hb1.mono hb0.size)
  clear hw0 h00 hb0
  obtain ⟨R, hRe⟩ : ∃ R, w0.heap.size = R := ⟨_, rfl⟩
  rw [hRe] at hR1 hs0 hs1 hb1 ⊢
  have hR1l := hR1.lt
  go_wp2_with fail
  refine (l2Bent_any R 0 _ hR1 (by omega)).mono ?_
  rintro e w2 ⟨kd, sy, n, p, c, F, S, p2, rfl, hR2, hp0, hp2, hg2, hO, hnd, hS, hl3, hz, hk⟩
  have h02 := h01.grown hg2 (fun e => by have := Option.some.inj e; omega)
  have b02 := xb_below b01 hg2 (by omega) b01.size
  obtain ⟨z0, z1, z2, z3⟩ := h02.cells
  have f0 := h02.free 0
  have f1 := h02.free 1
  have f2 := h02.free 2
  have f3 := h02.free 3
  go_wp2
  exact bodyPost_ret (results_ex rfl _ _ w.heap.size kd sy n _ rfl (h02.store kd sy n (.slice p F.len c))) rfl ⟨kd, sy, n, p, c, F, rfl, (hO.of_blocks (fun y hy => store_low (lo := w.heap.size + 1) (by omega) _ _ _ _ y (by have := (hS y hy).1; omega))).slc (by unfold maxLen; omega), hl3, hz, hk, below_store b02 (Nat.le_refl _) _ _ _ _⟩

/-- The heads of a list whose parts can be read. -/
def RdHeads (w : World) : List Hd → Fo → Prop
  | [], .nil => True
  | x :: q, .cons kd sy n k r => (x.kd = kd ∧ x.sy = sy ∧ x.n = n ∧ x.len = k.len) ∧ Slc w x.a k ∧ RdHeads w q r
  | [], .cons .. => False
  | _ :: _, .nil => False
theorem RdHeads.len {w : World} : ∀ (q : List Hd) (F : Fo), RdHeads w q F → q.length = F.len
  | [], .nil, _ => rfl
  | x :: q, .cons kd sy n k r, h => by show q.length + 1 = r.len + 1; rw [RdHeads.len q r h.2.2]
  | [], .cons .., h => h.elim
  | _ :: _, .nil, h => h.elim
theorem RdHeads.below {w w' : World} (hb : Below w.heap.size w w') : ∀ (q : List Hd) (F : Fo), RdHeads w q F → RdHeads w' q F
  | [], .nil, _ => trivial
  | x :: q, .cons kd sy n k r, h => ⟨h.1, h.2.1.below hb, RdHeads.below hb q r h.2.2⟩
  | [], .cons .., h => h.elim
  | _ :: _, .nil, h => h.elim
theorem RdHeads.snoc {w : World} (x : Hd) (k : Fo) (hl : x.len = k.len) (hk : Slc w x.a k) : ∀ (q : List Hd) (F : Fo), RdHeads w q F → RdHeads w (q ++ [x]) (F.app (.cons x.kd x.sy x.n k .nil))
  | [], .nil, _ => ⟨⟨rfl, rfl, rfl, hl⟩, hk, trivial⟩
  | y :: q, .cons kd sy n k' r, h => ⟨h.1, h.2.1, RdHeads.snoc x k hl hk q r h.2.2⟩
  | [], .cons .., h => h.elim
  | _ :: _, .nil, h => h.elim
theorem kids_heads {w : World} : ∀ (F : Fo) (b off : Nat), Kids w b off F → ∃ q, RdHeads w q F ∧ ∀ j u, (hdCells q)[j]? = some u → w.cell? ⟨b, off + j, none⟩ = some u
  | .nil, b, off, _ => ⟨[], trivial, fun j u hj => by simp [hdCells] at hj⟩
  | .cons kd sy n k r, b, off, ⟨⟨h1, h2, h3⟩, ⟨a, cap, h4, h5, h6⟩, h7⟩ => by
    obtain ⟨q, hq, hc⟩ := kids_heads r b (off + 4) h7
    refine ⟨⟨kd, sy, n, a, k.len, cap⟩ :: q, ⟨⟨rfl, rfl, rfl, rfl⟩, ⟨h5, fun hl => ?_⟩, hq⟩, fun j u hj => ?_⟩
    · obtain ⟨b', off', ha, hlt, hk⟩ := h6 hl
      exact ⟨b', off', ha, hlt, hk⟩
    · have e : hdCells (⟨kd, sy, n, a, k.len, cap⟩ :: q) = [.int .i64 kd, .int .i64 sy, .int .i64 n, .slice a k.len cap] ++ hdCells q := rfl
      rw [e] at hj
      match j, hj with
      | 0, hj => simp at hj; subst hj; exact h1
      | 1, hj => simp at hj; subst hj; exact h2
      | 2, hj => simp at hj; subst hj; exact h3
      | 3, hj => simp at hj; subst hj; exact h4
      | j + 4, hj =>
        rw [List.getElem?_append_right (by simp)] at hj
        have := hc j u (by simpa using hj)
        rw [show off + 4 + j = off + (j + 4) by omega] at this
        exact this
theorem heads_kids {w : World} : ∀ (q : List Hd) (F : Fo) (b off : Nat), RdHeads w q F → (∀ j u, (hdCells q)[j]? = some u → w.cell? ⟨b, off + j, none⟩ = some u) → Kids w b off F
  | [], .nil, _, _, _, _ => trivial
  | x :: q, .cons kd sy n k r, b, off, h, hc => by
    obtain ⟨⟨h1, h2, h3, hl⟩, hk, h4⟩ := h
    subst h1; subst h2; subst h3
    refine ⟨⟨hc 0 _ rfl, hc 1 _ rfl, hc 2 _ rfl⟩, ⟨x.a, x.cap, by rw [← hl]; exact hc 3 _ rfl, hk.len, hk.cells⟩, heads_kids q r b (off + 4) h4 fun j u hj => ?_⟩
    have e : (hdCells (x :: q))[j + 4]? = (hdCells q)[j]? := by simp [hdCells]
    have := hc (j + 4) u (e.trans hj)
    rw [show off + 4 + j = off + (j + 4) by omega]; exact this
  | [], .cons .., _, _, h, _ => h.elim
  | _ :: _, .nil, _, _, h, _ => h.elim
theorem slc_of_row {w : World} {B g n cap : Nat} {q : List Hd} {F : Fo} (h : w.ownsRow B 25 4 (.slice (some ⟨g, 0, none⟩) n cap) q.length (hdCells q)) (hh : RdHeads w q F) (hl : F.len ≤ maxLen) : Slc w (some ⟨g, 0, none⟩) F := by
  refine ⟨hl, fun h0 => ?_⟩
  have hlen := hh.len
  rcases h.2 with ⟨e, hn⟩ | ⟨g', cap', cur, e, hb, hg, hn, hcm, hcs, htk⟩
  · cases e
  · simp only [Value.slice.injEq, Option.some.injEq, Addr.mk.injEq] at e
    obtain ⟨⟨rfl, _, _⟩, _, _⟩ := e
    refine ⟨g, 0, rfl, (Array.getElem?_eq_some_iff.1 hg).1, heads_kids q F g 0 hh fun j u hj => ?_⟩
    have hjl : j < q.length * 4 := by rw [← h.1]; exact (List.getElem?_eq_some_iff.1 hj).1
    rw [← htk, List.getElem?_take, if_pos hjl] at hj
    rw [Nat.zero_add, cell_at hg]
    rwa [Array.getElem?_toList] at hj

theorem okX_head {kd sy n : Int} {F : Fo} (h : okX kd sy n F = true) : headB kd sy n F.len = true := by
  simp only [okX, formX, Bool.and_eq_true] at h
  exact h.1.1
theorem okX_bad {kd sy n : Int} {F : Fo} (h : headB kd sy n F.len = false) : okX kd sy n F = false := by simp [okX, formX, h]
theorem bad_more {kd sy n : Int} {F : Fo} (h : okX kd sy n F = true) (G : Fo) (hG : G.len = F.len + 1) : okX kd sy n G = false := by
  have := okX_head h
  simp only [headB, decide_eq_true_eq] at this
  refine okX_bad (decide_eq_false fun e => ?_)
  omega
theorem bad_n {kd sy n : Int} {F : Fo} (h : okX kd sy n F = true) : okX kd sy (n + 20 + 1) F = false := by
  have := okX_head h
  simp only [headB, decide_eq_true_eq] at this
  refine okX_bad (decide_eq_false fun e => ?_)
  by_cases h7 : kd = 7
  · simp only [h7, if_true] at this e; omega
  · simp only [h7, if_false] at this e; omega
theorem bad_kd (sy n : Int) (F : Fo) : okX 8 sy n F = false := by
  refine okX_bad (decide_eq_false fun e => ?_)
  have : kidsOf 8 = -1 := by decide
  omega
theorem bad_sy (kd n : Int) (F : Fo) : okX kd 5 n F = false := okX_bad (decide_eq_false fun e => by omega)
theorem formF_drop : ∀ (k d : Nat) (F : Fo), formF d F = true → formF d (F.drop k) = true
  | 0, d, F, h => by rw [Fo.drop_zero]; exact h
  | k + 1, d, .nil, h => by cases d <;> rfl
  | k + 1, 0, .cons .., h => by simp [formF] at h
  | k + 1, d + 1, .cons kd sy n K r, h => by
    simp only [formF, Bool.and_eq_true] at h
    exact formF_drop k (d + 1) r h.2
theorem ok_kid {kd sy n kd' sy' n' : Int} {F kids : Fo} {k : Nat} (h : okX kd sy n F = true) (hd : F.drop k = .cons kd' sy' n' kids (F.drop (k + 1))) (hs : kids.size < F.size) : okX kd' sy' n' kids = true := by
  simp only [okX, Bool.and_eq_true, decide_eq_true_eq] at h ⊢
  refine ⟨?_, by omega⟩
  have h4 := formF_drop k 4 F (formX_form h.1)
  rw [formF_step hd, Bool.and_eq_true] at h4
  have h5 := h4.1
  simp only [formX, Bool.and_eq_true] at h5 ⊢
  exact ⟨h5.1, formF_up 3 kids h5.2⟩

set_option maxHeartbeats 1000000 in
theorem exText_bad (kd sy n : Int) (a : Option Addr) (cap : Nat) (F : Fo) (w : World) (t : TypeId) (v : Value) (hE : ErrAt w t v) (h : Slc w a F) (hx : okX kd sy n F = false) :
    Calls Tryd.prog 8 #[.agg #[.int .i64 kd, .int .i64 sy, .int .i64 n, .slice a F.len cap]] w fun e w' => e = .returned (.string { data := #[] }) ∧ Below w.heap.size w w' := by
  obtain ⟨w0, hw0⟩ : ∃ w0, w.alloc (.cells #[.int .i64 kd, .int .i64 sy, .int .i64 n, .slice a F.len cap] 25) = w0 := ⟨_, rfl⟩
  have hl := exList_box kd sy n a cap F w t v hE h hw0
  obtain ⟨x0, x1, x2, x3⟩ := box4 w (.int .i64 kd) (.int .i64 sy) (.int .i64 n) (.slice a F.len cap) 25
  rw [hw0] at x0 x1 x2 x3
  go_enter Tryd.func8, Tryd.ntmps8
  go_wp2_with fail
  refine hl.mono ?_
  rintro e w1 ⟨hb1, ⟨ho, _⟩ | ⟨ho, rfl⟩⟩
  · rw [hx] at ho; cases ho
  · clear x0 x1 x2 x3 hw0 hl
    go_wp2
    go_loopw [3, 5, 9] (fun v p i wr => v = .slice none 0 0 ∧ i = .int .i64 0 ∧ Below w.heap.size w wr) (fun _ _ i _ => 0)
    case atStart => exact ⟨rfl, rfl, hb1⟩
    case round =>
      obtain ⟨rfl, rfl, hb⟩ := hrel
      go_wp2
      go_ret
      exact ⟨rfl, hb⟩
end Go.Proofs.YtpokhhplgljmiaaDoor
