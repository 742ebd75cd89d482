/- What the program's ExRead answers. -/
import Derived.Test.YtpkinlcinccccaaDoorExRdA
import Derived.Test.YtpkinlcinccccaaDoorExT3
namespace Go.Proofs.YtpkinlcinccccaaDoor
open Go.ChangeShapes Go.WideShapes Go.ChangeAt Go.RowKit
set_option linter.unusedVariables false
set_option maxRecDepth 4000
theorem impl_yes {t : List UInt8} {D : Nat} {kd sy n : Int} {F : Fo} {rest : List Wd} (h : scanK numA (D + 5) 1 (cutAux [] t) = some (.cons kd sy n F .nil, rest)) (ht : textOf kd sy n F = t) (hl : t.length ≤ 300) : XAns t true kd sy n F := by
  cases ho : okX kd sy n F
  · exfalso
    have e : textOf kd sy n F = [] := by simp [textOf, ho]
    rw [e] at ht
    subst ht
    rw [scan_empty] at h
    cases h
  · have e : textOf kd sy n F = textX kd sy n F := by simp [textOf, ho]
    exact Or.inl ⟨rfl, hl, ho, e ▸ ht⟩
theorem impl_none {t : List UInt8} {D : Nat} (h : scanK numA (D + 5) 1 (cutAux [] t) = none) : XAns t false 0 0 0 .nil := by
  refine xans_none (Or.inr fun kd sy n F ho e => ?_)
  have h1 := scan_textX numA_small (show 5 ≤ D + 5 by omega) (okX_form ho).1
  rw [e, h] at h1
  cases h1
theorem impl_other {t : List UInt8} {D : Nat} {kd sy n : Int} {F : Fo} {rest : List Wd} (h : scanK numA (D + 5) 1 (cutAux [] t) = some (.cons kd sy n F .nil, rest)) (ht : textOf kd sy n F ≠ t) : XAns t false 0 0 0 .nil := by
  refine xans_none (Or.inr fun kd' sy' n' F' ho e => ?_)
  have h1 := scan_textX numA_small (show 5 ≤ D + 5 by omega) (okX_form ho).1
  rw [e, h] at h1
  simp only [Option.some.injEq, Prod.mk.injEq, Fo.cons.injEq, and_true] at h1
  obtain ⟨⟨rfl, rfl, rfl, rfl⟩, _⟩ := h1
  exact ht (by simp [textOf, ho, e])
def XOwn (t : List UInt8) (w : World) (e : Ending) (w' : World) : Prop :=
  ∃ (ok : Bool) (kd sy n : Int) (a : Option Addr) (cap : Nat) (F : Fo) (S : List Nat), e = .returned (.tuple #[.agg #[.int .i64 kd, .int .i64 sy, .int .i64 n, .slice a F.len cap], .bool ok]) ∧ Below w.heap.size w w' ∧ OwnAt w' a S F ∧ S.Nodup ∧ (∀ x ∈ S, w.heap.size ≤ x ∧ x < w'.heap.size) ∧ F.len ≤ 3 ∧ Hid (XAns t ok kd sy n F)
theorem own_nil (w : World) (a : Option Addr) : OwnAt w a [] .nil := ⟨fun _ => rfl, fun h => by simp [Fo.len] at h⟩
set_option maxHeartbeats 2000000 in
theorem implExRead_any (s : ByteArray) (w : World) (t : TypeId) (v : Value) (hE : ErrAt w t v) (hM : MaxAt w) (hs : s.size ≤ 1048576) : Calls Tryd.prog 11 #[.string s] w (XOwn (bs s) w) := by
  have hb0 := below_new w (.cells #[.int .i64 0, .int .i64 0, .int .i64 0, .slice none 0 0] 29)
  have hx0 : PBox (w.alloc (.cells #[.int .i64 0, .int .i64 0, .int .i64 0, .slice none 0 0] 29)) w.heap.size 0 0 0 (.slice none 0 0) := ⟨heap_alloc_new _ _⟩
  have hbl := bs_len s
  by_cases hbig : (300 : Int) < (s.size : Int)
  · have HA : Hid (XAns (bs s) false 0 0 0 .nil) := xans_none (Or.inl (by omega))
    clear hbl
    go_enter Tryd.func11, Tryd.ntmps11
    go_wp2
    exact bodyPost_ret (results_box (p := 2) (u := 3) rfl _ _ w.heap.size 0 0 0 _ rfl hx0) rfl ⟨false, 0, 0, 0, none, 0, .nil, [], rfl, hb0, own_nil _ _, List.nodup_nil, (fun x hx => by cases hx), by simp [Fo.len], HA⟩
  · have h300 : (bs s).length ≤ 300 := by omega
    have H300 : Hid ((bs s).length ≤ 300) := h300
    have hscan := exScan_any s _ t v (hE.below hb0) (hM.below hb0) (by omega) (by have := hE.lt; have := hb0.size; omega)
    clear hbl h300
    go_enter Tryd.func11, Tryd.ntmps11
    go_wp2_with fail
    refine hscan.mono ?_
    rintro e w1 ⟨hb1, ⟨hN, rfl⟩ | ⟨kd, sy, n, a, cap, F, rest, S, hS, rfl, hO, hnd, hSS, hF3⟩⟩
    · have HA : Hid (XAns (bs s) false 0 0 0 .nil) := impl_none hN.out
      have hx1 := hx0.below hb1
      have b1 := hb0.trans (hb1.mono hb0.size)
      have hb2 := below_new w1 (.cells #[.int .i64 0, .int .i64 0, .int .i64 0, .slice none 0 0] 29)
      have hx2 := hx1.below hb2
      have b2 := b1.trans (hb2.mono b1.size)
      obtain ⟨z0, z1, z2, z3⟩ := hx2.cells
      have f0 := hx2.free 0
      have f1 := hx2.free 1
      have f2 := hx2.free 2
      have f3 := hx2.free 3
      go_wp2
      exact bodyPost_ret (results_box (p := 2) (u := 3) rfl _ _ w.heap.size 0 0 0 _ rfl (hx2.store 0 0 0 _)) rfl ⟨false, 0, 0, 0, none, 0, .nil, [], rfl, below_store b2 (Nat.le_refl _) _ _ _ _, own_nil _ _, List.nodup_nil, (fun x hx => by cases hx), by simp [Fo.len], HA⟩
    · have hx1 := hx0.below hb1
      have b1 := hb0.trans (hb1.mono hb0.size)
      obtain ⟨w2, hw2⟩ : ∃ w2, w1.alloc (.cells #[.int .i64 kd, .int .i64 sy, .int .i64 n, .slice a F.len cap] 29) = w2 := ⟨_, rfl⟩
      have hb2 : Below w1.heap.size w1 w2 := by rw [← hw2]; exact below_new _ _
      have hk2 : PBox w2 w1.heap.size kd sy n (.slice a F.len cap) := by rw [← hw2]; exact ⟨heap_alloc_new _ _⟩
      have hx2 := hx1.below hb2
      have b2 := b1.trans (hb2.mono b1.size)
      have hsl := (hO.slc (by unfold maxLen; omega)).below hb2
      have htx := implExText_any kd sy n a cap F w2 t v (hE.below b2) hsl
      have hO2 := hO.below hb2
      obtain ⟨y0, y1, y2, y3⟩ := hk2.cells
      by_cases ht : textOf kd sy n F = bs s
      · have HA : Hid (XAns (bs s) true kd sy n F) := impl_yes hS.out ht H300.out
        have hbe : (textOf kd sy n F == s.toList) = true := by rw [ByteArray.toList_eq]; exact beq_iff_eq.2 ht
        clear ht hS
        generalize textOf kd sy n F = T at htx hbe
        go_wp2_with fail
        refine htx.mono ?_
        rintro e w3 ⟨rfl, hb3⟩
        have hx3 := hx2.below hb3
        have hk3 := hk2.below hb3
        have hO3 := hO2.below hb3
        have b3 := b2.trans (hb3.mono b2.size)
        clear y0 y1 y2 y3
        obtain ⟨y0, y1, y2, y3⟩ := hk3.cells
        obtain ⟨z0, z1, z2, z3⟩ := hx3.cells
        have f0 := hx3.free 0
        have f1 := hx3.free 1
        have f2 := hx3.free 2
        have f3 := hx3.free 3
        have hx0l := hx0.lt
        have hs1 := hb1.size
        have hs2 := hb2.size
        have hs3 := hb3.size
        have hO4 : OwnAt ((((w3.setCell ⟨w.heap.size, 0, none⟩ (.int .i64 kd)).setCell ⟨w.heap.size, 1, none⟩ (.int .i64 sy)).setCell ⟨w.heap.size, 2, none⟩ (.int .i64 n)).setCell ⟨w.heap.size, 3, none⟩ (.slice a F.len cap)) a S F :=
          hO3.of_blocks fun x hx => store_low (w := w3) (b := w.heap.size) hx0l _ _ _ _ x (hSS x hx).1
        have HSS : Hid (∀ x ∈ S, w.heap.size ≤ x ∧ x < w3.heap.size) := fun x hx => by have := hSS x hx; exact ⟨by omega, by omega⟩
        go_wp2
        exact bodyPost_ret (results_box (p := 2) (u := 3) rfl _ _ w.heap.size kd sy n _ rfl (hx3.store kd sy n _)) rfl ⟨true, kd, sy, n, a, cap, F, S, rfl, below_store b3 (Nat.le_refl _) _ _ _ _, hO4, hnd, (fun x hx => by have := HSS.out x hx; simpa using this), hF3, HA⟩
      · have HA : Hid (XAns (bs s) false 0 0 0 .nil) := impl_other hS.out ht
        have hbe : (textOf kd sy n F == s.toList) = false := by rw [ByteArray.toList_eq]; exact beq_eq_false_iff_ne.2 ht
        clear ht hS
        generalize textOf kd sy n F = T at htx hbe
        go_wp2_with fail
        refine htx.mono ?_
        rintro e w3 ⟨rfl, hb3⟩
        have hx3 := hx2.below hb3
        have b3 := b2.trans (hb3.mono b2.size)
        clear y0 y1 y2 y3
        obtain ⟨z0, z1, z2, z3⟩ := hx3.cells
        have f0 := hx3.free 0
        have f1 := hx3.free 1
        have f2 := hx3.free 2
        have f3 := hx3.free 3
        go_wp2
        exact bodyPost_ret (results_box (p := 2) (u := 3) rfl _ _ w.heap.size 0 0 0 _ rfl (hx3.store 0 0 0 _)) rfl ⟨false, 0, 0, 0, none, 0, .nil, [], rfl, below_store b3 (Nat.le_refl _) _ _ _ _, own_nil _ _, List.nodup_nil, (fun x hx => by cases hx), by simp [Fo.len], HA⟩
end Go.Proofs.YtpkinlcinccccaaDoor
