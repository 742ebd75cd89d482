/- Places are put in order by the program's stable sort, with the comparison that it is given. -/
import Derived.Test.YtcaodkkomoaphaaDoorRuO1
import Derived.Test.YtcaodkkomoaphaaDoorRuL
import Derived.Test.YtcaodkkomoaphaaDoorCmp
namespace Go.Proofs.YtcaodkkomoaphaaDoor
open Go.ChangeShapes Go.WideShapes Go.ChangeAt Go.RowKit Go.Deep
set_option linter.unusedVariables false
set_option maxRecDepth 4000

def priOf (l : List Ru) (i : Int) : Int := (l[i.toNat]?.map (·.pri)).getD 0
theorem priOf_get {l : List Ru} {i : Nat} (h : i < l.length) : priOf l i = l[i].pri := by
  unfold priOf
  rw [Int.toNat_natCast, List.getElem?_eq_getElem h]
  rfl

set_option maxHeartbeats 1000000 in
theorem byPri_any (P : Nat) (a : Option Addr) (cap : Nat) (l : List Ru) (i j : Nat) (w : World) (hP : w.cell? ⟨P, 0, none⟩ = some (.slice a l.length cap)) (h : Rus w a l) (hi : i < l.length) (hj : j < l.length) :
    Calls Tryd.prog 12 #[.int .i64 i, .int .i64 j, .pointer (some ⟨P, 0, none⟩)] w fun e w' => e = .returned (.int .i64 (cmpI (priOf l j) (priOf l i))) ∧ Below w.heap.size w w' := by
  have hn := h.len
  have hPl := block_lt hP
  unfold maxLen at hn
  obtain ⟨b, off, rfl, hbl, hc⟩ := h.cells (by omega)
  obtain ⟨p1, c1, ht1, _⟩ := hc i hi
  obtain ⟨p2, c2, ht2, _⟩ := hc j hj
  have g1 := ht1.2.1
  have g2 := ht2.2.1
  rw [← priOf_get hi] at g1
  rw [← priOf_get hj] at g2
  clear hc ht1 ht2
  generalize priOf l i = x at g1 ⊢
  generalize priOf l j = y at g2 ⊢
  have a0 := fun u : After w => u.cell hP hPl
  have a1 := fun u : After w => u.cell g1 hbl
  have a2 := fun u : After w => u.cell g2 hbl
  have hk := fun (u : After w) => calls_after (u := u) ((cmpInt_any y x u.v).mono fun e w' (he : e = .returned (.int .i64 (cmpI y x)) ∧ w' = u.v) => ⟨he.1, he.2 ▸ Below.refl _ _⟩)
  go_enter Tryd.func12, Tryd.ntmps12
  go_wp2_with fail
  have hany := after_any
  refine wp_region_after (by kernel_rfl) (by kernel_rfl) ?_
  repeat (go_big_quiet_step ((go_at_call 13; refine hk _)))
  refine wpQuiet_nil ?_
  intro w2 hu
  have hb2 := after_of hu
  clear hu
  go_wp2
  go_ret
  exact ⟨rfl, hb2⟩
theorem grown_below {w u v : World} {r : Option Nat} (h : w.grownBy u r) (hb : Below u.heap.size u v) : w.grownBy v r :=
  grownBy_trans h ⟨hb.os, hb.tape, hb.output, hb.size, fun i hi _ => hb.block i hi⟩

set_option maxHeartbeats 4000000 in
theorem sort_any (P B : Nat) (p : Option Addr) (a : Option Addr) (cap cb : Nat) (l : List Ru) (w : World) (hn : l.length ≤ 4)
    (hread : ∀ u : World, w.grownBy u (p.map (·.block)) → u.cell? ⟨P, 0, none⟩ = some (.slice a l.length cap) ∧ Rus u a l) (h : IntOwn w B p (tailI 0 l.length)) :
    Calls Tryd.prog 11 #[.slice p l.length cb, .func (.func 12) #[] #[.pointer (some ⟨P, 0, none⟩)]] w fun e w' => e = .returned (.tuple #[]) ∧ IntOwn w' B p (ordS (priOf l) l.length) ∧ w.grownBy w' (p.map (·.block)) := by
  obtain ⟨pr, hpr⟩ : ∃ pr, priOf l = pr := ⟨_, rfl⟩
  have hcmp := fun (i j : Nat) (u : World) => byPri_any P a cap l i j u
  rw [hpr] at hcmp
  rw [hpr]
  clear hpr
  obtain ⟨n, hnl⟩ : ∃ n, l.length = n := ⟨_, rfl⟩
  rw [hnl] at hn h hread hcmp
  rw [hnl]
  clear hnl
  go_enter Tryd.func11, Tryd.ntmps11
  go_wp2
  go_loopw [8] (fun i wr => ∃ k : Nat, k ≤ n ∧ i = .int .i64 k ∧ IntOwn wr B p (ordS pr k ++ tailI k n) ∧ w.grownBy wr (p.map (·.block))) (fun i _ => n - (intOf i).toNat)
  case atStart => exact ⟨0, Nat.zero_le _, rfl, h, grownBy_refl _ _⟩
  case round =>
    revert hrel
    generalize wr = wo
    intro hrel
    obtain ⟨e, he, rfl, hO, hg⟩ := hrel
    by_cases hlt : e < n
    · have hel : (ordS pr e).length = e := ordS_len pr e
      rw [tailI_step hlt] at hO
      have HO : Hid (IntOwn wo B p (ordS pr e ++ (e : Int) :: tailI (e + 1) n)) := hO
      clear hO
      go_wp2
      go_loopw [5] (fun j wr => ∃ (A D : List Int), j = .int .i64 (A.length : Nat) ∧ Hid (ordS pr e = A ++ D) ∧ Hid (∀ y ∈ D, pr y < pr e) ∧ IntOwn wr B p (A ++ (e : Int) :: (D ++ tailI (e + 1) n)) ∧ w.grownBy wr (p.map (·.block))) (fun j _ => (intOf j).toNat)
      case atStart => exact ⟨ordS pr e, [], by rw [hel], (by simp : ordS pr e = ordS pr e ++ []), (fun y hy => absurd hy List.not_mem_nil : ∀ y ∈ ([] : List Int), pr y < pr e), HO.out, hg⟩
      case round =>
        obtain ⟨A, D, rfl, hAD, hD, hO, hg2⟩ := hrel
        have hAl : A.length ≤ e := by have := congrArg List.length hAD.out; rw [hel, List.length_append] at this; omega
        clear HO hg hel
        rcases List.eq_nil_or_concat A with hA | ⟨A', x, hA⟩
        · subst hA
          have hend : Hid (ordS pr (e + 1) = [] ++ (e : Int) :: D) := insP_of pr e _ [] D (ordS_pair pr e) hAD.out hD.out (by simp)
          have z0 : (([] : List Int).length : Int) = 0 := rfl
          go_wp2_with fail
          have hany := after_any
          refine wp_region_after (by kernel_rfl) (by kernel_rfl) ?_
          repeat (go_big_quiet_step (fail))
          refine wpQuiet_nil ?_
          intro w2 hu
          have hb2 := after_of hu
          clear hu
          go_wp2
          refine ⟨⟨e + 1, by omega, by go_num, ?_, grown_below hg2 hb2⟩, by simp [intOf]; omega⟩
          rw [hend.out]
          have := hO.below hb2
          simpa using this
        · rw [List.concat_eq_append] at hA
          subst hA
          obtain ⟨q, hq⟩ : ∃ q, A'.length = q := ⟨_, rfl⟩
          have hl1 : (A' ++ [x]).length = q + 1 := by simp [hq]
          rw [hl1] at hAl
          have hxm : 0 ≤ x ∧ x < e := by
            have : x ∈ ordS pr e := by rw [hAD.out]; simp
            exact (ordS_mem pr e x).1 this
          obtain ⟨xn, rfl⟩ : ∃ xn : Nat, x = xn := ⟨x.toNat, by omega⟩
          have hO2 : IntOwn wr B p (A' ++ (xn : Int) :: (e : Int) :: (D ++ tailI (e + 1) n)) := by simpa using hO
          have hlen2 : (A' ++ (xn : Int) :: (e : Int) :: (D ++ tailI (e + 1) n)).length = n := by
            have := congrArg List.length hAD.out
            rw [ordS_len] at this
            simp [tailI_len] at this ⊢
            omega
          obtain ⟨b, rfl, hB, hbl, hrow⟩ := hO2.row (by rw [hlen2]; omega)
          obtain ⟨⟨v0, x0⟩, f0⟩ := hrow.facts (j := q) (by rw [hlen2]; omega)
          obtain ⟨⟨v1, x1⟩, f1⟩ := hrow.facts (j := q + 1) (by rw [hlen2]; omega)
          have e0 : v0 = .int .i64 xn := by
            obtain ⟨c, t, hb, hs, hc⟩ := hrow
            have := hc q (by rw [hlen2]; omega)
            rw [xCell hb, this] at x0
            have e1 : (A' ++ (xn : Int) :: (e : Int) :: (D ++ tailI (e + 1) n))[q]'(by rw [hlen2]; omega) = xn := by simp [← hq]
            rw [e1] at x0
            exact (Option.some.inj x0).symm
          have e1 : v1 = .int .i64 e := by
            obtain ⟨c, t, hb, hs, hc⟩ := hrow
            have := hc (q + 1) (by rw [hlen2]; omega)
            rw [xCell hb, this] at x1
            have e1 : (A' ++ (xn : Int) :: (e : Int) :: (D ++ tailI (e + 1) n))[q + 1]'(by rw [hlen2]; omega) = e := by simp [← hq]
            rw [e1] at x1
            exact (Option.some.inj x1).symm
          subst e0 e1
          rw [hl1]
          obtain ⟨hP, hR⟩ := hread _ hg2
          have hk := fun (u : After wr) => calls_after (u := u) (hcmp xn e u.v ((u.h.cell (block_lt hP)).trans hP) (hR.below u.h) (by omega) (by omega))
          have a0 := fun u : After wr => u.cell x0 hbl
          have a1 := fun u : After wr => u.cell x1 hbl
          have hq1 : ((q + 1 : Nat) : Int) - 1 = q := by omega
          have hq2 : decide ((0 : Int) < ((q + 1 : Nat) : Int)) = true := decide_eq_true (by omega)
          have hqn : q + 1 < n := by omega
          have hqn' : q < n := by omega
          obtain ⟨Q, hQ⟩ : ∃ Q, q + 1 = Q := ⟨_, rfl⟩
          rw [hQ] at hq1 hq2 hqn x1 f1 a1
          rw [hQ]
          have HQ : Hid (q + 1 = Q) := hQ
          have hq3 : decide (0 < Q) = true := decide_eq_true (by omega)
          clear hQ hO hl1
          by_cases hgt : pr xn < pr e
          · have hv : cmpI (pr e) (pr xn) = 1 := (cmpI_gt hgt).symm
            rw [hv] at hk
            clear hv
            go_wp2_with fail
            have hany := after_any
            refine wp_region_after (by kernel_rfl) (by kernel_rfl) ?_
            repeat (go_big_quiet_step ((go_at_call 12; refine hk _)))
            refine wpQuiet_nil ?_
            intro w2 hu
            have hb2 := after_of hu
            clear hu hk a0 a1
            have hg3 := grown_below hg2 hb2
            have hO3 := hO2.below hb2
            have x0' := (hb2.cell (p := ⟨b, q, none⟩) hbl).trans x0
            have x1' := (hb2.cell (p := ⟨b, Q, none⟩) hbl).trans x1
            have hbl2 : b < w2.heap.size := Nat.lt_of_lt_of_le hbl hb2.size
            obtain ⟨b', e', _, _, hrow2⟩ := hO3.row (by rw [hlen2]; omega)
            cases e'
            have f0' := (hrow2.facts (j := q) (by rw [hlen2]; omega)).2
            have f1' := (hrow2.facts (j := Q) (by rw [hlen2]; omega)).2
            have s1 := (hrow2.set1 (j := q) (by rw [hlen2]; omega) e).set1 (j := Q) (by rw [List.length_set, hlen2]; omega) xn
            have hsw : Hid (((A' ++ (xn : Int) :: (e : Int) :: (D ++ tailI (e + 1) n)).set q e).set Q xn = A' ++ (e : Int) :: (xn : Int) :: (D ++ tailI (e + 1) n)) := by
              have := swap_list A' (D ++ tailI (e + 1) n) xn e
              rw [hq, HQ.out] at this
              exact this
            rw [hsw.out] at s1
            clear x0 x1 f0 f1 hrow hrow2 hO2 hO3
            go_wp2_with fail
            go_region
            go_wp2
            refine ⟨⟨A', (xn : Int) :: D, by rw [hq], ?_, ?_, ⟨?_, fun z hz => by cases hz; exact hB, fun _ => ⟨b, rfl, hB, by simpa using hbl2, IntRow.of_block s1 rfl⟩⟩, ?_⟩, ?_⟩
            · show _ = _
              rw [hAD.out]; simp
            · intro y hy
              rcases List.mem_cons.1 hy with rfl | hy
              · exact hgt
              · exact hD.out y hy
            · unfold maxLen
              simp at hlen2 ⊢
              omega
            · exact grownBy_trans (grownBy_setCell (grownBy_setCell hg3 _) _) ⟨rfl, rfl, rfl, Nat.le_refl _, fun _ _ _ => rfl⟩
            · have := HQ.out
              simp [intOf]
              omega
          · obtain ⟨c, hv, hc⟩ : ∃ c, cmpI (pr e) (pr xn) = c ∧ decide (0 < c) = false := ⟨_, rfl, decide_eq_false (by unfold cmpI; split <;> (try split) <;> omega)⟩
            rw [hv] at hk
            clear hv
            have hend : Hid (ordS pr (e + 1) = (A' ++ [(xn : Int)]) ++ (e : Int) :: D) := insP_of pr e _ (A' ++ [(xn : Int)]) D (ordS_pair pr e) hAD.out hD.out (fun y hy => by simp at hy; subst hy; omega)
            go_wp2_with fail
            have hany := after_any
            refine wp_region_after (by kernel_rfl) (by kernel_rfl) ?_
            repeat (go_big_quiet_step ((go_at_call 12; refine hk _)))
            refine wpQuiet_nil ?_
            intro w2 hu
            have hb2 := after_of hu
            clear hu
            go_wp2
            refine ⟨⟨e + 1, by omega, by go_num, ?_, grown_below hg2 hb2⟩, by simp [intOf]; omega⟩
            rw [hend.out]
            have := hO2.below hb2
            simpa using this
    · go_wp2
      go_end0
      obtain rfl : e = n := by omega
      rw [tailI_end, List.append_nil] at hO
      exact ⟨rfl, hO, hg⟩
end Go.Proofs.YtcaodkkomoaphaaDoor
