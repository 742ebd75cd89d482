/- The line of a rule, by the program. -/
import Derived.Test.YtdmcpneppalaiaaDoorRuT2
namespace Go.Proofs.YtdmcpneppalaiaaDoor
open Go.ChangeShapes Go.WideShapes Go.ChangeAt Go.RowKit Go.Deep
set_option linter.unusedVariables false
set_option maxRecDepth 4000

def strC (l : List (List UInt8)) : List Value := l.map fun t => .string ⟨t.toArray⟩
theorem strC_snoc (l : List (List UInt8)) (t : List UInt8) : strC (l ++ [t]) = strC l ++ [.string ⟨t.toArray⟩] := by simp [strC]
theorem strC_len (l : List (List UInt8)) : (strC l).length = l.length := by simp [strC]
theorem new_str2 (w : World) (p q : ByteArray) (t : TypeId) : ∀ j u, ([.string p, .string q] : List Value)[j]? = some u → (w.alloc (.cells #[.string p, .string q] t)).cell? ((⟨w.heap.size, 0, none⟩ : Addr).add j) = some u := by
  intro j u hj
  match j, hj with
  | 0, hj => simp at hj; subst hj; simp [Addr.add]
  | 1, hj => simp at hj; subst hj; simp [Addr.add]
theorem ownsRow_one (w : World) (s : ByteArray) : (w.alloc (.cells #[.string s] 9)).ownsRow w.heap.size 9 1 (.slice (some ⟨w.heap.size, 0, none⟩) 1 1) 1 [.string s] :=
  ⟨by simp, .inr ⟨w.heap.size, 1, #[.string s], rfl, Nat.le_refl _, heap_alloc_new w _, Nat.le_refl _, by simp [maxLen], by simp, by simp⟩⟩
theorem own_block {w : World} {B n : Nat} {v : Value} {xs : List Value} (h : w.ownsRow B 9 1 v n xs) (hn : 0 < n) :
    ∃ gs cs, v = .slice (some ⟨gs, 0, none⟩) n cs ∧ gs < w.heap.size ∧ n ≤ cs ∧ ∀ j u, xs[j]? = some u → w.cell? ⟨gs, 0 + j, none⟩ = some u := by
  have hxl := h.1
  rcases h.2 with ⟨_, h0⟩ | ⟨g, c, cur, rfl, hb, hg, hcn, _, hcs, htk⟩
  · omega
  · refine ⟨g, c, rfl, (Array.getElem?_eq_some_iff.1 hg).1, hcn, fun j u hj => ?_⟩
    have hjl : j < n := by have := (List.getElem?_eq_some_iff.1 hj).1; omega
    rw [← htk, List.getElem?_take, if_pos (by omega), Array.getElem?_toList] at hj
    rw [Nat.zero_add, xCell hg]
    exact hj

/-- The last two words are put behind the others, and all are joined. -/
theorem line_run (x : Ru) (X : World) (B : Nat) (v : Value) (h : X.ownsRow B 9 1 v 7 (strC (wordsR x))) (hB : B ≤ X.heap.size) (hl : (lineR x).length ≤ 1000) :
    ∃ gs cs wJ, (Builtin.append_ #[42, 42] 42 #[v, .slice (some ⟨X.heap.size, 0, none⟩) 2 2]).run Tryd.prog (X.alloc (.cells #[.string ⟨(raiseT x.ra).toArray⟩, .string ⟨(textX x.kd x.sy x.n x.ks).toArray⟩] 9)) = .ok (.slice (some ⟨gs, 0, none⟩) 9 cs) wJ ∧ Below B X wJ ∧
      Calls Tryd.prog 18 #[.slice (some ⟨gs, 0, none⟩) 9 cs, .string ⟨#[32]⟩] wJ fun e w' => e = .returned (.string ⟨(lineR x).toArray⟩) ∧ Below wJ.heap.size wJ w' := by
  obtain ⟨i0, hi, hz0, hz1, hz2⟩ := info_str_parts
  have b1 := xBelow_new X (.cells #[.string ⟨(raiseT x.ra).toArray⟩, .string ⟨(textX x.kd x.sy x.n x.ks).toArray⟩] 9)
  obtain ⟨v', wJ, hrun, r1, r2, r3⟩ := append_where (P := Tryd.prog) (X.alloc (.cells #[.string ⟨(raiseT x.ra).toArray⟩, .string ⟨(textX x.kd x.sy x.n x.ks).toArray⟩] 9)) B 42 42 9 i0 (.string ByteArray.empty) 1 16 Tryd.underlying42 hi hz0 hz1 hz2 rfl (by decide) v 7 (strC (wordsR x)) (owns_below h b1) ⟨X.heap.size, 0, none⟩ 2 2 [.string ⟨(raiseT x.ra).toArray⟩, .string ⟨(textX x.kd x.sy x.n x.ks).toArray⟩] rfl (new_str2 X _ _ _) (by intro u hu; simp at hu; rcases hu with rfl | rfl <;> rfl) (by simp [maxLen]) (by omega) (Nat.le_trans hB b1.size)
  obtain ⟨gs, cs, rfl, hgl, hcn, hcell⟩ := own_block r1 (by omega)
  refine ⟨gs, cs, wJ, hrun, (b1.mono hB).grown r2 (Nat.le_trans hB b1.size) (fun y hy => (h.lt y hy).1), ?_⟩
  have hw : (wordsR x).length = 7 := by simp [wordsR, numsR]
  have hmap : ((wordsR x ++ [raiseT x.ra, textX x.kd x.sy x.n x.ks]).map (fun t => (⟨t.toArray⟩ : ByteArray))).map (·.data.toList) = wordsR x ++ [raiseT x.ra, textX x.kd x.sy x.n x.ks] := by simp [Function.comp_def]
  have hj := Tryd.strings_Join gs 0 cs ((wordsR x ++ [raiseT x.ra, textX x.kd x.sy x.n x.ks]).map (fun t => (⟨t.toArray⟩ : ByteArray))) ⟨#[32]⟩ wJ
    (by
      intro j y hj
      refine hcell j (.string y) ?_
      have : strC (wordsR x) ++ [.string ⟨(raiseT x.ra).toArray⟩, .string ⟨(textX x.kd x.sy x.n x.ks).toArray⟩] = ((wordsR x ++ [raiseT x.ra, textX x.kd x.sy x.n x.ks]).map (fun t => (⟨t.toArray⟩ : ByteArray))).map Value.string := by simp [strC, Function.comp_def]
      rw [this, List.getElem?_map, hj]
      rfl)
    hgl (by simp [hw]) (by simpa [hw] using hcn) (by rw [hmap]; show (lineR x).length ≤ _; omega)
  rw [hmap] at hj
  have hlen : ((wordsR x ++ [raiseT x.ra, textX x.kd x.sy x.n x.ks]).map (fun t => (⟨t.toArray⟩ : ByteArray))).length = 9 := by simp [hw]
  rw [hlen] at hj
  exact hj

theorem rList_append_run {P : Program} {w : World} {ops : Array Oper} {rest : List Oper} {o : Oper} {a : Act} {Q : Exit → Act → World → Prop} (hgd : o.guard = none) (s x : Operand) (t : TypeId)
    (ho : o.op = .call { callee := .builtin .append, args := #[s, x], argTypes := #[t, t] }) (vs vx : Value) (hs : a.eval s = vs) (hx : a.eval x = vx) {v' : Value} {w' : World}
    (hr : (Builtin.append_ #[t, t] o.type #[vs, vx]).run P w = .ok v' w') (h : wpList P ops Q rest (a.put o.dst v') w') : wpList P ops Q (o :: rest) a w := by
  refine wpList_plain hgd fun _ hK => ?_
  unfold Oper.wp execOp
  simp only [ho, resolve, invoke, builtin, Sem.run_bind, Sem.run_pure, Result.andThen_ok, List.map_toArray, List.map_cons, List.map_nil, hs, hx, hr]
  exact hK _ _ h
theorem chain1 (w2 : World) {v3 : World} (g3 : Below w2.drew.heap.size w2.drew v3) : Below w2.heap.size w2 v3 := by
  have k2 : Below w2.heap.size w2 w2.drew := (Below.refl w2.heap.size w2).drew
  exact k2.trans (g3.mono k2.size)
theorem chain2 (w2 : World) {v3 v4 : World} (g3 : Below w2.drew.heap.size w2.drew v3) (g4 : Below v3.heap.size v3 v4) : Below w2.heap.size w2 v4 := by
  have k3 := chain1 w2 g3
  exact k3.trans (g4.mono k3.size)
theorem Bx.below' {w w' : World} {A B : Nat} {cs : Array Value} (h : Bx w A cs) (hb : Below B w w') (hA : A < B) : Bx w' A cs := by
  obtain ⟨t, f, h⟩ := h
  exact ⟨t, f, (hb.block A hA).trans h⟩

theorem line_close {w w2 wr w9 wJ wK : World} (b2 : Below w.heap.size w w2) (be : Below w.heap.size w wr) (hz : Below wr.heap.size wr w9) (hbJ : Below w2.heap.size w9 wJ) (hbK : Below wJ.heap.size wJ wK) : Below w.heap.size w wK := by
  have k1 := be.trans (hz.mono be.size)
  have k2 := k1.trans (hbJ.mono b2.size)
  exact k2.trans (hbK.mono k2.size)

theorem nums_get {x : Ru} (h : ruOkB x = true) : ∀ k (hk : k < (numsR x).length), -1000 ≤ (numsR x)[k] ∧ (numsR x)[k] ≤ 1000 := by
  obtain ⟨_, _, h3⟩ := ruOk_parts h
  intro k hk
  simp only [numsR, List.length_cons, List.length_nil] at hk
  rcases (show k = 0 ∨ k = 1 ∨ k = 2 ∨ k = 3 ∨ k = 4 ∨ k = 5 by omega) with rfl | rfl | rfl | rfl | rfl | rfl
  · show -1000 ≤ x.pri ∧ x.pri ≤ 1000
    omega
  · show -1000 ≤ x.mode ∧ x.mode ≤ 1000
    omega
  · show -1000 ≤ x.lo ∧ x.lo ≤ 1000
    omega
  · show -1000 ≤ x.hi ∧ x.hi ≤ 1000
    omega
  · show -1000 ≤ x.key ∧ x.key ≤ 1000
    omega
  · show -1000 ≤ x.add ∧ x.add ≤ 1000
    omega
theorem line_len {x : Ru} (h : ruOkB x = true) : (lineR x).length ≤ 1000 := by
  obtain ⟨h1, h2, h3⟩ := ruOk_parts h
  rw [lineR_eq]
  have e1 := Lib.itoa_length_le x.pri (by omega) (by omega)
  have e2 := Lib.itoa_length_le x.mode (by omega) (by omega)
  have e3 := Lib.itoa_length_le x.lo (by omega) (by omega)
  have e4 := Lib.itoa_length_le x.hi (by omega) (by omega)
  have e5 := Lib.itoa_length_le x.key (by omega) (by omega)
  have e6 := Lib.itoa_length_le x.add (by omega) (by omega)
  have e7 : (raiseT x.ra).length = 1 := by unfold raiseT; split <;> rfl
  have e8 : x.nm.data.toList.length ≤ 6 := by rw [Array.length_toList]; exact h1.2
  have e9 : (textX x.kd x.sy x.n x.ks).length ≤ 30 * (x.ks.size + 1) := by
    refine textX_len (d := 5) ?_
    simp only [okX, Bool.and_eq_true] at h2
    exact h2.1
  have e10 : x.ks.size + 1 ≤ 12 := by simp [okX] at h2; omega
  simp only [List.length_append, List.length_cons, List.length_nil]
  omega
theorem strC_take {x : Ru} {k : Nat} (hk : k < (numsR x).length) : strC ((wordsR x).take (k + 1 + 1)) = strC ((wordsR x).take (k + 1)) ++ [.string ⟨(Lib.itoa (numsR x)[k]).toArray⟩] := by
  have h1 : k + 1 < (wordsR x).length := by simp [wordsR]; exact hk
  rw [List.take_succ_eq_append_getElem h1, strC_snoc]
  simp [wordsR]

set_option maxHeartbeats 4000000 in
theorem implLine_any (x : Ru) (a : Option Addr) (c : Nat) (w : World) (t : TypeId) (v : Value) (hE : ErrAt w t v) (hT : Tab w) (h : RuIn w a x) :
    Calls Tryd.prog 7 #[ruV x a c] w fun e w' => e = .returned (.string ⟨(lineOf x).toArray⟩) ∧ Below w.heap.size w w' := by
  obtain ⟨i0, hi, hz0, hz1, hz2⟩ := info_str_parts
  obtain ⟨w1, hw1⟩ : ∃ w1, w.alloc (.cells (ruC x a c) 33) = w1 := ⟨_, rfl⟩
  have hA1 := bx_new w (ruC x a c) 33
  have b1 := xBelow_new w (.cells (ruC x a c) 33)
  rw [hw1] at hA1 b1
  have hi1 := h.below b1
  obtain ⟨q0, q1, q2, q3, q4, q5, q6, q7, q8, q9, q10, q11⟩ := hA1.twelve
  simp only [Nat.zero_add] at q0 q1 q2 q3 q4 q5 q6 q7 q8 q9 q10 q11
  have hok := implRuleOk_any x a c w1 t v (hE.below b1) hi1
  unfold ruV at hok ⊢
  unfold ruC at hw1 hok ⊢
  cases hf : ruOkB x
  · rw [hf] at hok
    have hx : lineOf x = [] := by simp [lineOf, hf]
    rw [hx]
    go_enter Tryd.func7, Tryd.ntmps7
    go_wp2_with fail
    refine hok.mono ?_
    rintro e w2 ⟨rfl, hb2⟩
    go_wp2
    go_ret
    exact ⟨rfl, b1.trans (hb2.mono b1.size)⟩
  · rw [hf] at hok
    have hx : lineOf x = lineR x := by simp [lineOf, hf]
    rw [hx]
    obtain ⟨hp1, hp2, hp3⟩ := ruOk_parts hf
    have hnum := nums_get hf
    have hll := line_len hf
    have hra : x.ra < 5 := by omega
    have ht : textOf x.kd x.sy x.n x.ks = textX x.kd x.sy x.n x.ks := by simp [textOf, hp2]
    have hnl : (numsR x).length = 6 := rfl
    clear hf hx hp1 hp2 hp3
    go_enter Tryd.func7, Tryd.ntmps7
    go_wp2_with fail
    refine hok.mono ?_
    rintro e w2 ⟨rfl, hb2⟩
    have b2 := b1.trans (hb2.mono b1.size)
    have hA2 := hA1.below hb2
    have hi2 := hi1.below hb2
    clear q0 q1 q2 q3 q4 q5 q6 q7 q8 q9 q10 q11 hok hw1
    obtain ⟨q0, q1, q2, q3, q4, q5, q6, q7, q8, q9, q10, q11⟩ := hA2.twelve
    simp only [Nat.zero_add] at q0 q1 q2 q3 q4 q5 q6 q7 q8 q9 q10 q11
    have o3 := ownsRow_one w2 x.nm
    have b3 := xBelow_new w2 (.cells #[.string x.nm] 9)
    have z3 : (w2.alloc (.cells #[.string x.nm] 9)).heap.size = w2.heap.size + 1 := by simp
    obtain ⟨w3, hw3⟩ : ∃ w3, w2.alloc (.cells #[.string x.nm] 9) = w3 := ⟨_, rfl⟩
    rw [hw3] at o3 b3 z3
    have hA3 := hA2.below b3
    obtain ⟨s0_, s1_, s2_, s3_, s4_, s5_, s6_, s7_, s8_, s9_, s10_, s11_⟩ := hA3.twelve
    simp only [Nat.zero_add] at s0_ s1_ s2_ s3_ s4_ s5_ s6_ s7_ s8_ s9_ s10_ s11_
    have b4 := xBelow_new w3 (.cells #[.int .i64 x.pri, .int .i64 x.mode, .int .i64 x.lo, .int .i64 x.hi, .int .i64 x.key, .int .i64 x.add] 3)
    have hN4 := bx_new w3 #[.int .i64 x.pri, .int .i64 x.mode, .int .i64 x.lo, .int .i64 x.hi, .int .i64 x.key, .int .i64 x.add] 3
    obtain ⟨w4, hw4⟩ : ∃ w4, w3.alloc (.cells #[.int .i64 x.pri, .int .i64 x.mode, .int .i64 x.lo, .int .i64 x.hi, .int .i64 x.key, .int .i64 x.add] 3) = w4 := ⟨_, rfl⟩
    rw [hw4] at b4 hN4
    have o4 := owns_below o3 b4
    have hA4 := hA3.below b4
    have b24 := b3.trans (b4.mono b3.size)
    have bw4 := b2.trans (b24.mono b2.size)
    obtain ⟨nb, hnb⟩ : ∃ nb, w3.heap.size = nb := ⟨_, rfl⟩
    rw [hnb] at hN4 z3
    have Z3 : Hid (nb = w2.heap.size + 1) := z3
    clear z3
    have hNl := hN4.lt
    have hnc : ∀ k (hk : k < (numsR x).length), w4.cell? ⟨nb, k, none⟩ = some (.int .i64 (numsR x)[k]) := by
      intro k hk
      rw [hnl] at hk
      rcases (show k = 0 ∨ k = 1 ∨ k = 2 ∨ k = 3 ∨ k = 4 ∨ k = 5 by omega) with rfl | rfl | rfl | rfl | rfl | rfl
      · exact hN4.cell 0 rfl
      · exact hN4.cell 1 rfl
      · exact hN4.cell 2 rfl
      · exact hN4.cell 3 rfl
      · exact hN4.cell 4 rfl
      · exact hN4.cell 5 rfl
    have o4 : w4.ownsRow w2.heap.size 9 1 (.slice (some ⟨w2.heap.size, 0, none⟩) 1 1) 1 (strC ((wordsR x).take 1)) := by
      have : strC ((wordsR x).take 1) = [.string x.nm] := by
        show [Value.string ⟨x.nm.data.toList.toArray⟩] = _
        rw [← nm_list]
      rw [this]; exact o4
    have hTl := hT.lt
    go_wp2_with fail
    clear q0 q1 q2 q3 q4 q5 q6 q7 q8 q9 q10 q11 s0_ s1_ s2_ s3_ s4_ s5_ s6_ s7_ s8_ s9_ s10_ s11_ hw3 hw4 hN4 o3 hnb
    have hNs : nb < w4.heap.size := hNl
    have hnbw : w2.heap.size < nb := by have := b3.size; have := Z3.out; omega
    go_loopw [3, 5, 26] (fun u n i wr => ∃ k : Nat, k ≤ 6 ∧ i = .int .i64 k ∧ wr.ownsRow w2.heap.size 9 1 u (k + 1) (strC ((wordsR x).take (k + 1))) ∧ (∀ y, u.ownBlock = some y → y ≠ nb) ∧ wr.heap[nb]? = w4.heap[nb]? ∧ nb < wr.heap.size ∧ Below w2.heap.size w2 wr) (fun _ _ i _ => 6 - (intOf i).toNat)
    case atStart => exact ⟨0, by omega, rfl, o4, fun y hy => by cases hy; show w2.heap.size ≠ nb; omega, rfl, hNs, b24⟩
    case round =>
      obtain ⟨k, hk, rfl, hO, hOn, hNh, hNw, hb⟩ := hrel
      have be := b2.trans (hb.mono b2.size)
      have hB : w2.heap.size ≤ wr.heap.size := hb.size
      by_cases hlt : k < 6
      · have hkl : k < (numsR x).length := by rw [hnl]; exact hlt
        have c0 : wr.cell? ⟨nb, k, none⟩ = some (.int .i64 (numsR x)[k]) := (World.cell?_of_block (w := w4) hNh).trans (hnc k hkl)
        have hnk := hnum k hkl
        have hst : Hid (_ = _) := strC_take hkl
        generalize (numsR x)[k] = m at c0 hnk hst
        have hti := hT.below be hTl
        have hit := Tryd.strconv_Itoa m (by omega) (by omega) wr hti
        clear hkl
        go_wp2_with fail
        refine hit.mono ?_
        rintro e w5 ⟨rfl, hg5⟩
        have hb5 := below_grow hg5
        clear hit hg5
        have o5 := owns_below hO hb5
        have hB5 : w2.heap.size ≤ w5.heap.size := Nat.le_trans hB hb5.size
        have q1 := xBelow_new w5 (.cells #[.string ⟨(Lib.itoa m).toArray⟩] 9)
        obtain ⟨v', w6, hrun, r1, r2, r3⟩ := append_where (P := Tryd.prog) (w5.alloc (.cells #[.string ⟨(Lib.itoa m).toArray⟩] 9)) w2.heap.size 42 42 9 i0 (.string ByteArray.empty) 1 16 Tryd.underlying42 hi hz0 hz1 hz2 rfl (by decide) u3 (k + 1) (strC ((wordsR x).take (k + 1))) (owns_below o5 q1) ⟨w5.heap.size, 0, none⟩ 1 1 [.string ⟨(Lib.itoa m).toArray⟩] rfl (new_str w5 _ _) (by intro u hu; simp at hu; subst hu; rfl) (by unfold maxLen; omega) (by omega) (Nat.le_trans hB5 q1.size)
        go_wp2_with (at_builtin; refine rList_append_run rfl (.tmp 30) (.tmp 33) 42 rfl _ _ rfl rfl hrun ?_)
        have h5n : nb < w5.heap.size := Nat.lt_of_lt_of_le hNw hb5.size
        have h6n : nb < (w5.alloc (.cells #[.string ⟨(Lib.itoa m).toArray⟩] 9)).heap.size := Nat.lt_of_lt_of_le h5n q1.size
        have hb6 : Below w2.heap.size w2 w6 := ((hb.trans (hb5.mono hB)).trans (q1.mono hB5)).grown r2 (Nat.le_trans hB5 q1.size) (fun y hy => (hO.lt y hy).1)
        have hNh6 : w6.heap[nb]? = w4.heap[nb]? := (r2.block nb h6n (fun e => hOn nb e.symm rfl)).trans ((q1.block nb h5n).trans ((hb5.block nb hNw).trans hNh))
        go_wp2_with fail
        refine ⟨⟨k + 1, by omega, by go_num, ?_, fun y hy => ?_, hNh6, Nat.lt_of_lt_of_le h6n r2.size, hb6⟩, by simp [intOf]; omega⟩
        · rw [hst.out]
          exact r1
        · rcases r3 y hy with h1 | h1
          · exact hOn y h1
          · omega
      · obtain rfl : k = 6 := by omega
        have hfull : (wordsR x).take (6 + 1) = wordsR x := List.take_of_length_le (by simp [wordsR, numsR])
        rw [hfull] at hO
        have hAr := hA2.below' hb hA2.lt
        have hArd : Bx wr.drew w.heap.size (ruC x a c) := hAr
        obtain ⟨y0_0, y0_1, y0_2, y0_3, y0_4, y0_5, y0_6, y0_7, y0_8, y0_9, y0_10, y0_11⟩ := hAr.twelve
        simp only [Nat.zero_add] at y0_0 y0_1 y0_2 y0_3 y0_4 y0_5 y0_6 y0_7 y0_8 y0_9 y0_10 y0_11
        have hex := fun (u : World) (hu : Below w.heap.size w u) => implExText_any x.kd x.sy x.n a c x.ks u t v (hE.below hu) (h.ks.below hu)
        rw [ht] at hex
        have hc2 := fun {u z : World} (g1 : Below wr.drew.heap.size wr.drew u) (g2 : Below u.heap.size u z) => chain2 wr g1 g2
        have hc1 := fun {u : World} (g1 : Below wr.drew.heap.size wr.drew u) => chain1 wr g1
        clear hnum hnc hfull hOn hNh hlt hT hnl
        go_wp2_with fail
        go_region_with (first
          | (have kk := hb8; clear kk; go_at_call 19; refine (raiseWord_any x.ra _ hra).mono ?_; rintro e w9 ⟨rfl, hb9⟩; have hz := hc2 hb8 hb9; obtain ⟨gs, cs, wJ, hrun, hbJ, hjoin⟩ := line_run x w9 w2.heap.size u3 (owns_below hO hz) (Nat.le_trans hB hz.size) hll; simp [go_sem] at hrun)
          | (have kk := hb7; clear kk; go_at_call 20; refine (hex _ (be.trans ((hc1 hb7).mono be.size))).mono ?_; rintro e w9 ⟨rfl, hb9⟩; have hz := hc2 hb7 hb9; obtain ⟨gs, cs, wJ, hrun, hbJ, hjoin⟩ := line_run x w9 w2.heap.size u3 (owns_below hO hz) (Nat.le_trans hB hz.size) hll; simp [go_sem] at hrun)
          | (go_at_call 19; refine (raiseWord_any x.ra _ hra).mono ?_; rintro e w7 ⟨rfl, hb7⟩; obtain ⟨y1_0, y1_1, y1_2, y1_3, y1_4, y1_5, y1_6, y1_7, y1_8, y1_9, y1_10, y1_11⟩ := (hArd.below hb7).twelve; simp only [Nat.zero_add] at y1_0 y1_1 y1_2 y1_3 y1_4 y1_5 y1_6 y1_7 y1_8 y1_9 y1_10 y1_11)
          | (go_at_call 20; refine (hex _ (be.trans ((Below.refl wr.heap.size wr).drew.mono be.size))).mono ?_; rintro e w8 ⟨rfl, hb8⟩; obtain ⟨y2_0, y2_1, y2_2, y2_3, y2_4, y2_5, y2_6, y2_7, y2_8, y2_9, y2_10, y2_11⟩ := (hArd.below hb8).twelve; simp only [Nat.zero_add] at y2_0 y2_1 y2_2 y2_3 y2_4 y2_5 y2_6 y2_7 y2_8 y2_9 y2_10 y2_11)
          | (go_at_call 18; refine hjoin.mono ?_; rintro e wK ⟨rfl, hbK⟩))
        all_goals have hbz := line_close b2 be hz hbJ hbK
        all_goals go_wp2
        all_goals go_ret
        all_goals exact ⟨rfl, hbz⟩
end Go.Proofs.YtdmcpneppalaiaaDoor
