/- What the program's ExOk and ExMany answer. -/
import Derived.Test.YtpokhhplgljmiaaDoorExM
namespace Go.Proofs.YtpokhhplgljmiaaDoor
open Go.ChangeShapes Go.WideShapes Go.ChangeAt Go.RowKit
set_option linter.unusedVariables false

theorem okP_okX (kd sy n : Int) (F : Fo) : okP 5 0 kd sy n F = okX kd sy n F := by simp [okP, okX]

/-- The list, in the world behind a box. -/
theorem exList_box (kd sy n : Int) (a : Option Addr) (cap : Nat) (F : Fo) (w : World) (t : TypeId) (v : Value) (hE : ErrAt w t v) (hF : Slc w a F) {w0 : World} (hw0 : w.alloc (.cells #[.int .i64 kd, .int .i64 sy, .int .i64 n, .slice a F.len cap] 25) = w0) :
    Calls Tryd.prog 18 #[.agg #[.int .i64 kd, .int .i64 sy, .int .i64 n, .slice a F.len cap]] w0 fun e w' => Below w.heap.size w w' ∧
      ((okX kd sy n F = true ∧ ∃ q g c, e = .returned (.slice (some ⟨g, 0, none⟩) q.length c) ∧ q.map Hd.tri = (kd, sy, n) :: preF F ∧ w'.ownsRow w.heap.size 25 4 (.slice (some ⟨g, 0, none⟩) q.length c) q.length (hdCells q)) ∨
       (okX kd sy n F = false ∧ e = .returned (.slice none 0 0))) := by
  have hb : Below w.heap.size w w0 := by rw [← hw0]; exact bel1 _ _
  refine (exList_any kd sy n a cap F w0 t v (hE.below hb) (hF.below hb)).mono ?_
  rintro e w' ⟨h1, h2⟩
  refine ⟨hb.trans (h1.mono hb.size), ?_⟩
  rw [okP_okX] at h2
  rcases h2 with ⟨ho, q, u, rfl, hq, hown⟩ | h2
  · obtain ⟨g, c, rfl⟩ : ∃ g c, u = .slice (some ⟨g, 0, none⟩) q.length c := by
      rcases hown.2 with ⟨_, h0⟩ | ⟨g, c, cur, h, _⟩
      · have := congrArg List.length hq
        simp [h0] at this
      · exact ⟨g, c, h⟩
    exact .inl ⟨ho, q, g, c, rfl, hq, hown.mono hb.size⟩
  · exact .inr h2

set_option maxHeartbeats 1000000 in
theorem implExOk_any (kd sy n : Int) (a : Option Addr) (cap : Nat) (F : Fo) (w : World) (t : TypeId) (v : Value) (hE : ErrAt w t v) (h : Slc w a F) :
    Calls Tryd.prog 6 #[.agg #[.int .i64 kd, .int .i64 sy, .int .i64 n, .slice a F.len cap]] w fun e w' => e = .returned (.bool (okX kd sy n F)) ∧ Below w.heap.size w w' := by
  obtain ⟨w0, hw0⟩ : ∃ w0, w.alloc (.cells #[.int .i64 kd, .int .i64 sy, .int .i64 n, .slice a F.len cap] 25) = w0 := ⟨_, rfl⟩
  have hl := exList_box kd sy n a cap F w t v hE h hw0
  obtain ⟨x0, x1, x2, x3⟩ := box4 w (.int .i64 kd) (.int .i64 sy) (.int .i64 n) (.slice a F.len cap) 25
  rw [hw0] at x0 x1 x2 x3
  go_enter Tryd.func6, Tryd.ntmps6
  go_wp2_with fail
  refine hl.mono ?_
  rintro e w' ⟨hb, ⟨ho, q, g, c, rfl, hq, _⟩ | ⟨ho, rfl⟩⟩
  · have hlen : ¬ (q.length : Int) ≤ 0 := by have := congrArg List.length hq; simp at this; omega
    go_wp2
    go_ret
    exact ⟨by rw [ho]; simp; omega, hb⟩
  · go_wp2
    go_ret
    exact ⟨by rw [ho]; rfl, hb⟩

set_option maxHeartbeats 1000000 in
theorem implExMany_any (kd sy n : Int) (a : Option Addr) (cap : Nat) (F : Fo) (w : World) (t : TypeId) (v : Value) (hE : ErrAt w t v) (h : Slc w a F) :
    Calls Tryd.prog 11 #[.agg #[.int .i64 kd, .int .i64 sy, .int .i64 n, .slice a F.len cap]] w fun e w' => e = .returned (.int .i64 (manyX kd sy n F)) ∧ Below w.heap.size w w' := by
  obtain ⟨w0, hw0⟩ : ∃ w0, w.alloc (.cells #[.int .i64 kd, .int .i64 sy, .int .i64 n, .slice a F.len cap] 25) = w0 := ⟨_, rfl⟩
  have hl := exList_box kd sy n a cap F w t v hE h hw0
  obtain ⟨x0, x1, x2, x3⟩ := box4 w (.int .i64 kd) (.int .i64 sy) (.int .i64 n) (.slice a F.len cap) 25
  rw [hw0] at x0 x1 x2 x3
  go_enter Tryd.func11, Tryd.ntmps11
  go_wp2_with fail
  refine hl.mono ?_
  rintro e w' ⟨hb, ⟨ho, q, g, c, rfl, hq, _⟩ | ⟨ho, rfl⟩⟩
  · have hlen : manyX kd sy n F = q.length := by have := congrArg List.length hq; simp [preF_len] at this; simp [manyX, ho]; omega
    go_wp2
    go_ret
    exact ⟨by rw [hlen]; rfl, hb⟩
  · have hlen : manyX kd sy n F = 0 := by simp [manyX, ho]
    go_wp2
    go_ret
    exact ⟨by rw [hlen]; rfl, hb⟩
end Go.Proofs.YtpokhhplgljmiaaDoor
