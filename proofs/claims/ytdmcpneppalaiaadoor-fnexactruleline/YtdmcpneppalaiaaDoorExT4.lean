/- What the specification's ExText answers. -/
import Derived.Test.YtdmcpneppalaiaaDoorExT3
namespace Go.Proofs.YtdmcpneppalaiaaDoor
open Go.ChangeShapes Go.WideShapes Go.ChangeAt Go.RowKit
set_option linter.unusedVariables false
set_option maxRecDepth 4000

theorem str_app (a b : List UInt8) : ((⟨a.toArray⟩ : ByteArray) ++ ⟨b.toArray⟩) = ⟨(a ++ b).toArray⟩ := ba_app a b

theorem textTo_le : ∀ (k : Nat) (F : Fo), (textTo k F).length ≤ (textF F).length
  | k, .nil => by cases k <;> simp [textTo]
  | 0, .cons .. => by simp [textTo]
  | k + 1, .cons kd sy n kids r => by
    have := textTo_le k r
    simp only [textTo, textF, textX, List.length_append, List.length_cons]
    omega
theorem form_step : ∀ (k d : Nat) (F : Fo) (kd sy n : Int) (kids : Fo), formF d F = true → F.drop k = .cons kd sy n kids (F.drop (k + 1)) → formX d kd sy n kids = true ∧ (textX kd sy n kids).length ≤ (textF F).length ∧ kids.size ≤ F.size
  | _, _, .nil, _, _, _, _, _, h => by rw [Fo.drop_end _ .nil (by simp [Fo.len])] at h; cases h
  | _, 0, .cons .., _, _, _, _, h, _ => by simp [formF] at h
  | 0, d + 1, .cons kd' sy' n' k' r, kd, sy, n, kids, h, hd => by
    simp only [Fo.drop] at hd
    cases hd
    simp only [formF, Bool.and_eq_true] at h
    refine ⟨by simp [formX, h.1], ?_, by simp [Fo.size]; omega⟩
    simp only [textF, textX, List.length_append, List.length_cons]
    omega
  | j + 1, d + 1, .cons kd' sy' n' k' r, kd, sy, n, kids, h, hd => by
    simp only [Fo.drop] at hd
    simp only [formF, Bool.and_eq_true] at h
    obtain ⟨h1, h2, h3⟩ := form_step j (d + 1) r kd sy n kids h.2 hd
    refine ⟨h1, ?_, by simp [Fo.size]; omega⟩
    simp only [textF, List.length_append, List.length_cons]
    omega
theorem textX_long {kd sy n : Int} {F : Fo} (h : kd ≠ 1) : textX kd sy n F = (wordB kd ++ (if kd = 7 then 32 :: Lib.itoa n else [])) ++ textF F := by simp [textX, h]

set_option maxHeartbeats 4000000 in
theorem specText_any : ∀ (d : Nat), ∀ (kd sy n : Int) (a : Option Addr) (cap : Nat) (F : Fo) (w : World), Slc w a F → formX d kd sy n F = true → F.size ≤ 1000000 →
    Calls Tryd.prog 27 #[.agg #[.int .i64 kd, .int .i64 sy, .int .i64 n, .slice a F.len cap]] w fun e w' => e = .returned (.string ⟨(textX kd sy n F).toArray⟩) ∧ Below w.heap.size w w' := by
  intro d
  induction d with
  | zero => intro kd sy n a cap F w _ hf; simp [formX] at hf
  | succ d ih =>
    intro kd sy n a cap F w h hf hs
    have hn := h.len
    unfold maxLen at hn
    have hlenX := textX_len hf
    have hhd : headB kd sy n F.len = true := by simp only [formX, Bool.and_eq_true] at hf; exact hf.1
    have hff : formF d F = true := by simp only [formX, Bool.and_eq_true] at hf; exact hf.2
    have hkd := head_kd hhd
    have hnn := head_n hhd
    obtain ⟨w0, hw0⟩ : ∃ w0, w.alloc (.cells #[.int .i64 kd, .int .i64 sy, .int .i64 n, .slice a F.len cap] 31) = w0 := ⟨_, rfl⟩
    have hb0 : Below w.heap.size w w0 := by rw [← hw0]; exact bel1 _ _
    obtain ⟨x0, x1, x2, x3⟩ := box4 w (.int .i64 kd) (.int .i64 sy) (.int .i64 n) (.slice a F.len cap) 31
    rw [hw0] at x0 x1 x2 x3
    have hz : w.heap.size < w0.heap.size := by rw [← hw0]; simp
    by_cases h1 : kd = 1
    · subst h1
      have hx : Hid (textX 1 sy n F = [letB sy]) := by show _ = _; simp [textX]
      go_enter Tryd.func27, Tryd.ntmps27
      go_wp2_with fail
      refine (l1Letter_any sy _).mono ?_
      rintro e w1 ⟨rfl, rfl⟩
      go_wp2
      go_ret
      exact ⟨by rw [hx.out]; rfl, hb0⟩
    · obtain ⟨K, rfl⟩ := Int.eq_ofNat_of_zero_le (show 0 ≤ kd by omega)
      have hK : K < 8 := by omega
      have hK' : (K : Int) < 8 := by omega
      have b1 : ((K : Int) == 1) = false := by simpa using h1
      have hbd : Below w0.heap.size w0 w0.drew := (Below.refl _ _).drew
      go_enter Tryd.func27, Tryd.ntmps27
      go_wp2_with fail
      refine wp_mono (Q := fun e a' w' => match e with
        | .normal => (∃ t11 t12 t13 t14 t15, a' = { tmps := #[.agg #[.int .i64 K, .int .i64 sy, .int .i64 n, .slice a F.len cap], .pointer (some ⟨w.heap.size, 0, none⟩), .string { data := #[] }, .string ⟨(wordB K).toArray⟩, undef, .pointer (some ⟨w.heap.size, 0, none⟩), .int .i64 K, .bool false, undef, undef, undef, t11, t12, t13, t14, t15, undef, undef, undef, undef, undef, undef, undef, undef, undef, undef, undef, undef, undef, undef, undef, undef, undef, undef, undef, undef, undef, undef, undef, undef, undef, undef], defers := [] }) ∧ Below w0.heap.size w0 w'
        | _ => False) ?_ ?_
      · go_region_with (go_at_call 42; refine (specWords_any _).mono ?_; rintro e w1 ⟨rfl, hb1, hcell⟩; have y0 := (hb1.cell (p := ⟨w.heap.size, 0, none⟩) hz).trans x0; have hc : w1.cell? ⟨w0.heap.size, K, none⟩ = some (.string ⟨(wordB K).toArray⟩) := hcell K hK)
        all_goals exact ⟨⟨_, _, _, _, _, rfl⟩, hbd.trans (hb1.mono hbd.size)⟩
      rintro (_ | _ | _ | _ | _ | _) a' w1 hq
      all_goals try exact hq.elim
      obtain ⟨⟨t11, t12, t13, t14, t15, rfl⟩, hb1⟩ := hq
      have y0 := (hb1.cell (p := ⟨w.heap.size, 0, none⟩) hz).trans x0
      have y2 := (hb1.cell (p := ⟨w.heap.size, 2, none⟩) hz).trans x2
      have y3 := (hb1.cell (p := ⟨w.heap.size, 3, none⟩) hz).trans x3
      have b01 := hb0.trans (hb1.mono hb0.size)
      have hz1 : w.heap.size < w1.heap.size := Nat.lt_of_lt_of_le hz hb1.size
      clear x0 x1 x2 x3 hw0
      by_cases h7 : K = 7
      · have b7e : (K : Int) = 7 := by omega
        have b7 : ((K : Int) == 7) = true := by simpa using b7e
        have hi20 := Lib.itoa_length_le n (by omega) (by omega)
        have hw4 := wordB_len K
        have g1 : ¬ 9223372036854775807 < (wordB K).length + 1 := by omega
        have g2 : ¬ 9223372036854775807 < (wordB K).length + 1 + (Lib.itoa n).length := by omega
        obtain ⟨L, hL⟩ : ∃ L : List UInt8, L = wordB K ++ 32 :: Lib.itoa n := ⟨_, rfl⟩
        have hX : textX K sy n F = L ++ textF F := by rw [hL, textX_long h1]; simp [b7e]
        have hLb : L.length + (textF F).length ≤ 30000030 := by have := congrArg List.length hX; rw [List.length_append] at this; omega
        have hL0 : Hid (L = wordB K ++ 32 :: Lib.itoa n) := hL
        clear hL hlenX
        clear b7e h7
        go_wp2_with fail
        refine (l14Dec_any n _ (by omega) (by omega)).mono ?_
        rintro e w2 ⟨rfl, hb2⟩
        have b02 := b01.trans (hb2.mono b01.size)
        have hz2 : w.heap.size < w2.heap.size := Nat.lt_of_lt_of_le hz1 hb2.size
        have y3' := (hb2.cell (p := ⟨w.heap.size, 3, none⟩) hz1).trans y3
        go_wp2
        clear g1 g2
        go_loopw [3, 4] (fun o i wr => ∃ k : Nat, k ≤ F.len ∧ i = .int .i64 k ∧ o = .string ⟨(L ++ textTo k F).toArray⟩ ∧ Below w2.heap.size w2 wr) (fun _ i _ => F.len - (intOf i).toNat)
        case atStart => exact ⟨0, Nat.zero_le _, rfl, by rw [textTo_zero, List.append_nil, hL0.out]; exact val_str (by rw [show (⟨#[32]⟩ : ByteArray) = ⟨[32].toArray⟩ from rfl, ba_app, ba_app]; simp), Below.refl _ _⟩
        case round =>
          obtain ⟨k, hk, rfl, rfl, hb⟩ := hrel
          have hbw : Below w.heap.size w wr := b02.trans (hb.mono b02.size)
          have z3 : wr.cell? ⟨w.heap.size, 3, none⟩ = some (.slice a F.len cap) := (hb.cell (p := ⟨w.heap.size, 3, none⟩) hz2).trans y3'
          have hle := textTo_le k F
          by_cases hlt : k < F.len
          · obtain ⟨b, off, kd', sy', n', kids, p, cp, rfl, hbl, hdr, hsz, c0, c1, c2, c3, hkids⟩ := (h.below hbw).at hlt
            obtain ⟨f1, f2, f3⟩ := form_step k d F kd' sy' n' kids hff hdr
            have hnx : Hid (textTo (k + 1) F = _) := textTo_next k F kd' sy' n' kids hdr
            have hst := size_step hdr
            have hcall := ih kd' sy' n' p cp kids wr hkids f1 (by omega)
            have hle2 := textTo_le (k + 1) F
            have hnl := congrArg List.length hnx.out
            simp only [List.length_append, List.length_cons] at hnl
            clear ih hdr
            obtain ⟨TX, hTX⟩ : ∃ TX, textX kd' sy' n' kids = TX := ⟨_, rfl⟩
            obtain ⟨LK, hLK⟩ : ∃ LK, L ++ textTo k F = LK := ⟨_, rfl⟩
            have hLKl : LK.length = L.length + (textTo k F).length := by rw [← hLK, List.length_append]
            rw [hTX] at hcall hnl hnx
            rw [hLK]
            have g1 : ¬ 9223372036854775807 < LK.length + 1 := by omega
            have g2 : ¬ 9223372036854775807 < LK.length + 1 + TX.length := by omega
            have happ1 := ba_app LK [32]
            have happ2 := ba_app (LK ++ [32]) TX
            go_wp2_with fail
            refine hcall.mono ?_
            rintro e w3 ⟨rfl, hb3⟩
            go_wp2
            refine ⟨⟨k + 1, by omega, by go_num, ?_, hb.trans (hb3.mono hb.size)⟩, by simp [intOf]; omega⟩
            rw [hnx.out]
            rw [← hLK, List.append_assoc]
          · clear ih
            go_wp2
            go_ret
            exact ⟨by rw [hX, ← textTo_full k F (by omega)]; rfl, hbw⟩
      · have b7e : ¬ (K : Int) = 7 := by omega
        have b7 : ((K : Int) == 7) = false := by simpa using b7e
        obtain ⟨L, hL⟩ : ∃ L : List UInt8, L = wordB K := ⟨_, rfl⟩
        have hX : textX K sy n F = L ++ textF F := by rw [hL, textX_long h1]; simp [b7e]
        have hLb : L.length + (textF F).length ≤ 30000030 := by have := congrArg List.length hX; rw [List.length_append] at this; omega
        have hL0 : Hid (L = wordB K) := hL
        clear hL hlenX
        go_wp2
        go_loopw [3, 4] (fun o i wr => ∃ k : Nat, k ≤ F.len ∧ i = .int .i64 k ∧ o = .string ⟨(L ++ textTo k F).toArray⟩ ∧ Below w1.heap.size w1 wr) (fun _ i _ => F.len - (intOf i).toNat)
        case atStart => exact ⟨0, Nat.zero_le _, rfl, by rw [textTo_zero, List.append_nil, hL0.out], Below.refl _ _⟩
        case round =>
          obtain ⟨k, hk, rfl, rfl, hb⟩ := hrel
          have hbw : Below w.heap.size w wr := b01.trans (hb.mono b01.size)
          have z3 : wr.cell? ⟨w.heap.size, 3, none⟩ = some (.slice a F.len cap) := (hb.cell (p := ⟨w.heap.size, 3, none⟩) hz1).trans y3
          have hle := textTo_le k F
          by_cases hlt : k < F.len
          · obtain ⟨b, off, kd', sy', n', kids, p, cp, rfl, hbl, hdr, hsz, c0, c1, c2, c3, hkids⟩ := (h.below hbw).at hlt
            obtain ⟨f1, f2, f3⟩ := form_step k d F kd' sy' n' kids hff hdr
            have hnx : Hid (textTo (k + 1) F = _) := textTo_next k F kd' sy' n' kids hdr
            have hst := size_step hdr
            have hcall := ih kd' sy' n' p cp kids wr hkids f1 (by omega)
            have hle2 := textTo_le (k + 1) F
            have hnl := congrArg List.length hnx.out
            simp only [List.length_append, List.length_cons] at hnl
            clear ih hdr
            obtain ⟨TX, hTX⟩ : ∃ TX, textX kd' sy' n' kids = TX := ⟨_, rfl⟩
            obtain ⟨LK, hLK⟩ : ∃ LK, L ++ textTo k F = LK := ⟨_, rfl⟩
            have hLKl : LK.length = L.length + (textTo k F).length := by rw [← hLK, List.length_append]
            rw [hTX] at hcall hnl hnx
            rw [hLK]
            have g1 : ¬ 9223372036854775807 < LK.length + 1 := by omega
            have g2 : ¬ 9223372036854775807 < LK.length + 1 + TX.length := by omega
            have happ1 := ba_app LK [32]
            have happ2 := ba_app (LK ++ [32]) TX
            go_wp2_with fail
            refine hcall.mono ?_
            rintro e w2 ⟨rfl, hb2⟩
            go_wp2
            refine ⟨⟨k + 1, by omega, by go_num, ?_, hb.trans (hb2.mono hb.size)⟩, by simp [intOf]; omega⟩
            rw [hnx.out]
            rw [← hLK, List.append_assoc]
          · clear ih
            go_wp2
            go_ret
            exact ⟨by rw [hX, ← textTo_full k F (by omega)]; rfl, hbw⟩

set_option maxHeartbeats 1000000 in
theorem specExText_any (kd sy n : Int) (a : Option Addr) (cap : Nat) (F : Fo) (w : World) (h : Slc w a F) (hs : F.size ≤ 1048576) :
    Calls Tryd.prog 14 #[.agg #[.int .i64 kd, .int .i64 sy, .int .i64 n, .slice a F.len cap]] w fun e w' => e = .returned (.string ⟨(textOf kd sy n F).toArray⟩) ∧ Below w.heap.size w w' := by
  obtain ⟨w0, hw0⟩ : ∃ w0, w.alloc (.cells #[.int .i64 kd, .int .i64 sy, .int .i64 n, .slice a F.len cap] 31) = w0 := ⟨_, rfl⟩
  have hb0 : Below w.heap.size w w0 := by rw [← hw0]; exact bel1 _ _
  obtain ⟨x0, x1, x2, x3⟩ := box4 w (.int .i64 kd) (.int .i64 sy) (.int .i64 n) (.slice a F.len cap) 31
  rw [hw0] at x0 x1 x2 x3
  have hz : w.heap.size < w0.heap.size := by rw [← hw0]; simp
  have hok := specExOk_any kd sy n a cap F w0 (h.below hb0) hs
  cases ho : okX kd sy n F
  · rw [ho] at hok
    have hto : textOf kd sy n F = [] := by simp [textOf, ho]
    go_enter Tryd.func14, Tryd.ntmps14
    go_wp2_with fail
    refine hok.mono ?_
    rintro e w1 ⟨rfl, hb1⟩
    go_wp2
    go_ret
    exact ⟨by rw [hto]; rfl, hb0.trans (hb1.mono hb0.size)⟩
  · rw [ho] at hok
    have hto : textOf kd sy n F = textX kd sy n F := by simp [textOf, ho]
    have h5 : formX 5 kd sy n F = true := by simp only [okX, Bool.and_eq_true] at ho; exact ho.1
    have hsz : F.size ≤ 1000000 := by simp [okX] at ho; omega
    go_enter Tryd.func14, Tryd.ntmps14
    go_wp2_with fail
    refine hok.mono ?_
    rintro e w1 ⟨rfl, hb1⟩
    have b01 := hb0.trans (hb1.mono hb0.size)
    have y0 := (hb1.cell (p := ⟨w.heap.size, 0, none⟩) hz).trans x0
    have y1 := (hb1.cell (p := ⟨w.heap.size, 1, none⟩) hz).trans x1
    have y2 := (hb1.cell (p := ⟨w.heap.size, 2, none⟩) hz).trans x2
    have y3 := (hb1.cell (p := ⟨w.heap.size, 3, none⟩) hz).trans x3
    go_wp2_with fail
    refine (specText_any 5 kd sy n a cap F w1 (h.below b01) h5 hsz).mono ?_
    rintro e w2 ⟨rfl, hb2⟩
    go_wp2
    go_ret
    exact ⟨by rw [hto]; rfl, b01.trans (hb2.mono b01.size)⟩
end Go.Proofs.YtdmcpneppalaiaaDoor
