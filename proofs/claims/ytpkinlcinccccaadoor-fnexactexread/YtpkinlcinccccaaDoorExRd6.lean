/- What a text tells, said once; the specification's ExRead. -/
import Derived.Test.YtpkinlcinccccaaDoorExRd5
namespace Go.Proofs.YtpkinlcinccccaaDoor
open Go.ChangeShapes Go.WideShapes Go.ChangeAt Go.RowKit
set_option linter.unusedVariables false
set_option maxRecDepth 4000
/-- What reading a text answers. -/
def XAns (t : List UInt8) (ok : Bool) (kd sy n : Int) (F : Fo) : Prop :=
  (ok = true ∧ t.length ≤ 300 ∧ okX kd sy n F = true ∧ textX kd sy n F = t) ∨
  (ok = false ∧ (kd = 0 ∧ sy = 0 ∧ n = 0 ∧ F = .nil) ∧ (300 < t.length ∨ ∀ kd sy n F, okX kd sy n F = true → textX kd sy n F ≠ t))
theorem okX_form {kd sy n : Int} {F : Fo} (h : okX kd sy n F = true) : formX 5 kd sy n F = true ∧ 1 + F.size ≤ 12 := by
  simp only [okX, Bool.and_eq_true, decide_eq_true_eq] at h; exact h
theorem numF_small (n : Int) (h1 : 1 ≤ n) (h2 : n ≤ 20) : numF (Lib.itoa n) = some n := numF_complete (by omega) (by omega)
theorem text_one {kd sy n kd' sy' n' : Int} {F F' : Fo} (h : okX kd sy n F = true) (h' : okX kd' sy' n' F' = true) (e : textX kd sy n F = textX kd' sy' n' F') : kd = kd' ∧ sy = sy' ∧ n = n' ∧ F = F' := by
  have h1 := scan_textX numF_small (Nat.le_refl 5) (okX_form h).1
  have h2 := scan_textX numF_small (Nat.le_refl 5) (okX_form h').1
  rw [e, h2] at h1
  simp only [Option.some.injEq, Prod.mk.injEq, Fo.cons.injEq, and_true] at h1
  obtain ⟨rfl, rfl, rfl, rfl⟩ := h1
  exact ⟨rfl, rfl, rfl, rfl⟩
theorem xans_one {t : List UInt8} {ok ok' : Bool} {kd sy n kd' sy' n' : Int} {F F' : Fo} (h : XAns t ok kd sy n F) (h' : XAns t ok' kd' sy' n' F') : ok = ok' ∧ kd = kd' ∧ sy = sy' ∧ n = n' ∧ F = F' := by
  rcases h with ⟨rfl, hl, ho, ht⟩ | ⟨rfl, ⟨rfl, rfl, rfl, rfl⟩, hn⟩ <;> rcases h' with ⟨rfl, hl', ho', ht'⟩ | ⟨rfl, ⟨rfl, rfl, rfl, rfl⟩, hn'⟩
  · exact ⟨rfl, text_one ho ho' (ht.trans ht'.symm)⟩
  · rcases hn' with hn' | hn'
    · omega
    · exact absurd ht (hn' _ _ _ _ ho)
  · rcases hn with hn | hn
    · omega
    · exact absurd ht' (hn _ _ _ _ ho')
  · exact ⟨rfl, rfl, rfl, rfl, rfl⟩
theorem xans_none {t : List UInt8} (h : 300 < t.length ∨ ∀ kd sy n F, okX kd sy n F = true → textX kd sy n F ≠ t) : XAns t false 0 0 0 .nil := Or.inr ⟨rfl, ⟨rfl, rfl, rfl, rfl⟩, h⟩
theorem spec_yes {t : List UInt8} {kd sy n : Int} {F : Fo} (h : scanK numF 5 1 (cutAux [] t) = some (.cons kd sy n F .nil, [])) (ho : okX kd sy n F = true) (hl : t.length ≤ 300) : XAns t true kd sy n F := by
  refine Or.inl ⟨rfl, hl, ho, ?_⟩
  have h1 := scan_sound (fun u n h => numF_sound h) 5 1 _ _ _ h
  rw [textX_words (okX_form ho).1]
  have h2 := joinF_cut [] t
  rw [h1] at h2
  simpa [wordsF] using h2
theorem spec_no {t : List UInt8} (h : ∀ kd sy n F, scanK numF 5 1 (cutAux [] t) = some (.cons kd sy n F .nil, []) → okX kd sy n F = false) : XAns t false 0 0 0 .nil := by
  refine xans_none (Or.inr fun kd sy n F ho e => ?_)
  have h1 := scan_textX numF_small (Nat.le_refl 5) (okX_form ho).1
  rw [e] at h1
  rw [h _ _ _ _ h1] at ho
  cases ho
def XPost (t : List UInt8) (w : World) (e : Ending) (w' : World) : Prop :=
  ∃ (ok : Bool) (kd sy n : Int) (a : Option Addr) (cap : Nat) (F : Fo), e = .returned (.tuple #[.agg #[.int .i64 kd, .int .i64 sy, .int .i64 n, .slice a F.len cap], .bool ok]) ∧ Below w.heap.size w w' ∧ SlcIn w' w.heap.size w'.heap.size a F ∧ Hid (XAns t ok kd sy n F)
theorem results_sread (tmps : Array Value) (w : World) (g : Nat) (kd sy n : Int) (v : Value) (hp : tmps.getD 2 undef = .pointer (some ⟨g, 0, none⟩)) (hg : PBox w g kd sy n v) :
    (results Tryd.f10 tmps).run Tryd.prog w = .ok (.tuple #[.agg #[.int .i64 kd, .int .i64 sy, .int .i64 n, v], tmps.getD 3 undef]) w := by
  rw [results_cell_tmp (p := 2) (u := 3) (ty := 29) rfl, hp]
  have hl := run_loadVar_row w g 29 29 _ (0, 0) _ hg.row Tryd.underlying29 rfl (by kernel_rfl)
  simp [asAddr, hl, Result.andThen]
set_option maxHeartbeats 4000000 in
theorem specExRead_any (s : ByteArray) (w : World) (hs : s.size ≤ 1048576) : Calls Tryd.prog 10 #[.string s] w (XPost (bs s) w) := by
  have hb0 := below_new w (.cells #[.int .i64 0, .int .i64 0, .int .i64 0, .slice none 0 0] 29)
  have hx0 : PBox (w.alloc (.cells #[.int .i64 0, .int .i64 0, .int .i64 0, .slice none 0 0] 29)) w.heap.size 0 0 0 (.slice none 0 0) := ⟨heap_alloc_new _ _⟩
  have hbl := bs_len s
  by_cases hbig : (300 : Int) < (s.size : Int)
  · have HA : Hid (XAns (bs s) false 0 0 0 .nil) := xans_none (Or.inl (by omega))
    clear hbl
    go_enter Tryd.func10, Tryd.ntmps10
    go_wp2
    exact bodyPost_ret (results_sread _ _ w.heap.size 0 0 0 _ rfl hx0) rfl ⟨false, 0, 0, 0, none, 0, .nil, rfl, hb0, SlcIn.nil _ _ _ _, HA⟩
  · have h300 : (bs s).length ≤ 300 := by omega
    have H300 : Hid ((bs s).length ≤ 300) := h300
    clear hbl h300
    go_enter Tryd.func10, Tryd.ntmps10
    go_wp2_with fail
    refine (l14Cut_any s _ hs).mono ?_
    rintro e w1 ⟨v, ps, rfl, hown, hcut, hpl, hb1⟩
    have hpne : ps ≠ [] := by
      intro e
      have h1 := hcut.out
      rw [e] at h1
      exact cutAux_ne _ _ h1.symm
    obtain ⟨g, cap, rfl, hP⟩ := pieces_of hown hpne
    have b01 := hb0.trans (hb1.mono hb0.size)
    have hx1 := hx0.below hb1
    have hlen : ps.length ≤ 1000 := by omega
    have hpsz : ∀ p ∈ ps, p.size ≤ 1048576 := by
      intro p hp
      have h1 := joinF_len (ps.map bs) (bs p) (List.mem_map_of_mem hp)
      rw [hcut.out, joinF_cut, List.nil_append, bs_len, bs_len] at h1
      omega
    have hcall := specParse_any ps g cap hlen hpsz 5 (Nat.le_refl 5) 0 w1 hP (Nat.zero_le _)
    have hcast : ((5 : Nat) : Int) = 5 := rfl
    have hcast0 : ((0 : Nat) : Int) = 0 := rfl
    rw [hcast, hcast0] at hcall
    clear hown hpne
    go_wp2_with fail
    refine hcall.mono ?_
    rintro e w2 ⟨kd, sy, n, t, a, cp, F, rfl, hb2, hS2, hI⟩
    have hI' := hI.out
    unfold ParseIs at hI'
    rw [List.drop_zero, hcut.out] at hI'
    clear hI
    have hx2 := hx1.below hb2
    have b02 := b01.trans (hb2.mono b01.size)
    have hb3 := below_new w2 (.cells #[.int .i64 kd, .int .i64 sy, .int .i64 n, .slice a F.len cp] 29)
    have hk3 : PBox (w2.alloc (.cells #[.int .i64 kd, .int .i64 sy, .int .i64 n, .slice a F.len cp] 29)) w2.heap.size kd sy n (.slice a F.len cp) := ⟨heap_alloc_new _ _⟩
    obtain ⟨w3, hw3⟩ : ∃ w3, w2.alloc (.cells #[.int .i64 kd, .int .i64 sy, .int .i64 n, .slice a F.len cp] 29) = w3 := ⟨_, rfl⟩
    rw [hw3] at hb3 hk3
    have hx3 := hx2.below hb3
    have b03 := b02.trans (hb3.mono b02.size)
    obtain ⟨z0, z1, z2, z3⟩ := hx3.cells
    obtain ⟨y0, y1, y2, y3⟩ := hk3.cells
    have f0 := hx3.free 0
    have f1 := hx3.free 1
    have f2 := hx3.free 2
    have f3 := hx3.free 3
    by_cases htl : t = (ps.length : Int)
    · obtain ⟨hs5, hFs⟩ : scanK numF 5 1 (cutAux [] (bs s)) = some (.cons kd sy n F .nil, []) ∧ F.size ≤ 1048576 := by
        rcases hI' with ⟨_, h1⟩ | ⟨j, h1, _, hj, h2⟩
        · omega
        · have e : (cutAux [] (bs s)).drop j = [] := by rw [← hcut.out]; exact List.drop_eq_nil_of_le (by rw [List.length_map]; omega)
          rw [e] at h1
          refine ⟨h1, ?_⟩
          have h3 := (scan_size 5 1 _ _ _ h1).2
          rw [← hcut.out, List.length_map] at h3
          simp only [Fo.size] at h3
          omega
      have hne : (t != (ps.length : Int)) = false := by simp [htl]
      have hS3 := hS2.below hb3
      have hok := fun w' (hb : Below w3.heap.size w3 w') => specExOk_any kd sy n a cp F w' (hS3.slc.below hb) hFs
      cases ho : okX kd sy n F
      · rw [ho] at hok
        have HA : Hid (XAns (bs s) false 0 0 0 .nil) := spec_no fun kd' sy' n' F' h => by
          rw [hs5] at h
          simp only [Option.some.injEq, Prod.mk.injEq, Fo.cons.injEq, and_true] at h
          obtain ⟨rfl, rfl, rfl, rfl⟩ := h
          exact ho
        clear hs5 htl hI' ho
        clear f0 f1 f2 f3 z0 z1 z2 z3
        go_wp2_with fail
        refine (hok _ (Below.refl _ _)).mono ?_
        rintro e w4 ⟨rfl, hb4⟩
        have hx4 := hx3.below hb4
        have b04 := b03.trans (hb4.mono b03.size)
        obtain ⟨z0, z1, z2, z3⟩ := hx4.cells
        have f0 := hx4.free 0
        have f1 := hx4.free 1
        have f2 := hx4.free 2
        have f3 := hx4.free 3
        clear y0 y1 y2 y3
        go_wp2
        exact bodyPost_ret (results_sread _ _ w.heap.size 0 0 0 _ rfl (hx4.store 0 0 0 _)) rfl ⟨false, 0, 0, 0, none, 0, .nil, rfl, below_store b04 (Nat.le_refl _) _ _ _ _, SlcIn.nil _ _ _ _, HA⟩
      · rw [ho] at hok
        have HA : Hid (XAns (bs s) true kd sy n F) := spec_yes hs5 ho H300.out
        clear hs5 htl hI' ho
        clear f0 f1 f2 f3 z0 z1 z2 z3
        go_wp2_with fail
        refine (hok _ (Below.refl _ _)).mono ?_
        rintro e w4 ⟨rfl, hb4⟩
        have hx4 := hx3.below hb4
        have hk4 := hk3.below hb4
        have hS4 := hS3.below hb4
        have hx0l := hx1.lt
        have b04 := b03.trans (hb4.mono b03.size)
        clear y0 y1 y2 y3
        obtain ⟨z0, z1, z2, z3⟩ := hx4.cells
        obtain ⟨y0, y1, y2, y3⟩ := hk4.cells
        have f0 := hx4.free 0
        have f1 := hx4.free 1
        have f2 := hx4.free 2
        have f3 := hx4.free 3
        go_wp2
        refine bodyPost_ret (results_sread _ _ w.heap.size kd sy n _ rfl (hx4.store kd sy n _)) rfl ⟨true, kd, sy, n, a, cp, F, rfl, below_store b04 (Nat.le_refl _) _ _ _ _, ?_, HA⟩
        have := (hS4.low (by simp) (store_low (w := w4) (b := w.heap.size) hx0l (.int .i64 kd) (.int .i64 sy) (.int .i64 n) (.slice a F.len cp))).mono (lo := w.heap.size) (by omega)
        simpa using this
    · have hne : (t != (ps.length : Int)) = true := by simp [htl]
      have HA : Hid (XAns (bs s) false 0 0 0 .nil) := spec_no fun kd' sy' n' F' h => by
        rcases hI' with ⟨h1, _⟩ | ⟨j, h1, _, hj, h2⟩
        · rw [h1] at h; cases h
        · rw [h1] at h
          simp only [Option.some.injEq, Prod.mk.injEq] at h
          have h3 := congrArg List.length h.2
          rw [← hcut.out, List.length_drop, List.length_map, List.length_nil] at h3
          omega
      clear htl hI'
      clear y0 y1 y2 y3
      go_wp2
      exact bodyPost_ret (results_sread _ _ w.heap.size 0 0 0 _ rfl (hx3.store 0 0 0 _)) rfl ⟨false, 0, 0, 0, none, 0, .nil, rfl, below_store b03 (Nat.le_refl _) _ _ _ _, SlcIn.nil _ _ _ _, HA⟩
end Go.Proofs.YtpkinlcinccccaaDoor
