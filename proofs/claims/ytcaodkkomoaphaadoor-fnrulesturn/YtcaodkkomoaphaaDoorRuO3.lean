/- The order in which rules follow, by the specification and by the program. -/
import Derived.Test.YtcaodkkomoaphaaDoorRuO2
import Derived.Test.YtcaodkkomoaphaaDoorExL
namespace Go.Proofs.YtcaodkkomoaphaaDoor
open Go.ChangeShapes Go.WideShapes Go.ChangeAt Go.RowKit Go.Deep
set_option linter.unusedVariables false
set_option maxRecDepth 4000

def ordL (l : List Ru) : List Int := if rulesOkB l then ordS (priOf l) l.length else []
/-- What both RulesOrder hand back: numbers in a row of the call's own. -/
def OrdPost (w : World) (L : List Int) (e : Ending) (w' : World) : Prop := ∃ a cap, e = .returned (.slice a L.length cap) ∧ IntOwn w' w.heap.size a L ∧ (∀ x, a = some x → x.block < w'.heap.size) ∧ Below w.heap.size w w'
theorem ordPost_of {w w' : World} {L : List Int} {v : Value} {t : TypeId} (h : w'.ownsRow w.heap.size t 1 v L.length (intCells L)) (hb : Below w.heap.size w w') : OrdPost w L (.returned v) w' := by
  obtain ⟨a, cap, rfl, hO⟩ := intOwn_of h
  refine ⟨a, cap, rfl, hO, fun x hx => ?_, hb⟩
  subst hx
  exact (h.lt x.block rfl).2
theorem priOf_ok {l : List Ru} (h : rulesOkB l = true) {y : Int} (h0 : 0 ≤ y) (h1 : y < l.length) : 0 ≤ priOf l y ∧ priOf l y ≤ 9 := by
  obtain ⟨i, rfl⟩ : ∃ i : Nat, y = i := ⟨y.toNat, by omega⟩
  have hi : i < l.length := by omega
  have := rulesOk_get h hi
  rw [priOf_get hi]
  unfold ruOkB at this
  simp only [Bool.and_eq_true, decide_eq_true_eq] at this
  omega
theorem pair_snoc {pr : Int → Int} {S : List Int} {x : Int} (h : S.Pairwise (bef pr)) (hx : ∀ y ∈ S, bef pr y x) : (S ++ [x]).Pairwise (bef pr) :=
  List.pairwise_append.2 ⟨h, List.pairwise_singleton _ _, fun a ha b hb => by simp at hb; subst hb; exact hx a ha⟩

set_option maxHeartbeats 4000000 in
theorem specOrder_any (a : Option Addr) (cap : Nat) (l : List Ru) (w : World) (h : Rus w a l) (hs : ∀ x ∈ l, x.ks.size ≤ 1048576) :
    Calls Tryd.prog 6 #[.slice a l.length cap] w (OrdPost w (ordL l)) := by
  obtain ⟨i0, hi, hz0', hz1, hz2⟩ := info_int_parts
  have hok := fun w' => specRulesOk_any a cap l w'
  have hn := h.len
  unfold maxLen at hn
  cases hf : rulesOkB l
  · rw [hf] at hok
    have hx : ordL l = [] := by simp [ordL, hf]
    rw [hx]
    have b0 := xBelow_new w (.cells #[] 3)
    have o0 : (w.alloc (.cells #[] 3)).ownsRow w.heap.size 3 1 (.slice (some ⟨w.heap.size, 0, none⟩) 0 0) 0 [] := World.ownsRow_made _ _ _ (Nat.le_refl _) (by simp [maxLen]) rfl
    go_enter Tryd.func6, Tryd.ntmps6
    go_wp2_with fail
    refine (hok _ (h.below b0) hs).mono ?_
    rintro e w1 ⟨rfl, hb1⟩
    go_wp2
    go_ret
    exact ordPost_of (L := []) (owns_below o0 hb1) (b0.trans (hb1.mono b0.size))
  · rw [hf] at hok
    have hx : ordL l = ordS (priOf l) l.length := by simp [ordL, hf]
    rw [hx]
    have hl4 := rulesOk_len hf
    have hpk : Hid (∀ y : Int, 0 ≤ y → y < l.length → 0 ≤ priOf l y ∧ priOf l y ≤ 9) := fun y h0 h1 => priOf_ok hf h0 h1
    have hpg : Hid (∀ (i : Nat) (hi : i < l.length), l[i].pri = priOf l i) := fun i hi => (priOf_get hi).symm
    clear hf hx
    generalize priOf l = pr at hpk hpg ⊢
    have b0 := xBelow_new w (.cells #[] 3)
    have o0 : (w.alloc (.cells #[] 3)).ownsRow w.heap.size 3 1 (.slice (some ⟨w.heap.size, 0, none⟩) 0 0) 0 [] := World.ownsRow_made _ _ _ (Nat.le_refl _) (by simp [maxLen]) rfl
    go_enter Tryd.func6, Tryd.ntmps6
    go_wp2_with fail
    refine (hok _ (h.below b0) hs).mono ?_
    rintro e w1 ⟨rfl, hb1⟩
    have hb01 := b0.trans (hb1.mono b0.size)
    have o1 := owns_below o0 hb1
    clear hok b0 o0
    go_wp2_with fail
    go_loopw [3, 4] (fun v q wr => ∃ (P : Int) (S : List Int), q = .int .i64 P ∧ -1 ≤ P ∧ P ≤ 9 ∧ wr.ownsRow w.heap.size 3 1 v S.length (intCells S) ∧ Hid (S.Pairwise (bef pr)) ∧ Hid (∀ y, y ∈ S ↔ (0 ≤ y ∧ y < l.length) ∧ P < pr y) ∧ Hid ((S.length : Int) ≤ (9 - P) * 4) ∧ Below w.heap.size w wr) (fun _ q _ => (intOf q + 1).toNat)
    case atStart =>
      refine ⟨9, [], rfl, by omega, by omega, o1, List.Pairwise.nil, ?_, (by simp : ((([] : List Int).length : Int) ≤ (9 - 9) * 4)), hb01⟩
      intro y
      refine ⟨fun h => absurd h List.not_mem_nil, fun ⟨⟨h0, h1⟩, h2⟩ => ?_⟩
      have := hpk.out y h0 h1
      omega
    case round =>
      revert hrel
      generalize wr = wo
      intro hrel
      obtain ⟨P, S, rfl, hP0, hP1, hO, hpw, hm, hln, hb⟩ := hrel
      by_cases hP : 0 ≤ P
      · go_wp2_with fail
        go_loopw [3, 5] (fun v j wr => ∃ (k : Nat) (S : List Int), k ≤ l.length ∧ j = .int .i64 k ∧ wr.ownsRow w.heap.size 3 1 v S.length (intCells S) ∧ Hid (S.Pairwise (bef pr)) ∧ Hid (∀ y, y ∈ S ↔ (0 ≤ y ∧ y < l.length) ∧ (P < pr y ∨ (pr y = P ∧ y < k))) ∧ Hid ((S.length : Int) ≤ (9 - P) * 4 + k) ∧ Below w.heap.size w wr) (fun _ j _ => l.length - (intOf j).toNat)
        case atStart =>
          refine ⟨0, S, Nat.zero_le _, rfl, hO, hpw.out, ?_, (by have := hln.out; omega : (S.length : Int) ≤ (9 - P) * 4 + (0 : Nat)), hb⟩
          intro y
          rw [hm.out y]
          constructor
          · rintro ⟨h1, h2⟩; exact ⟨h1, .inl h2⟩
          · rintro ⟨h1, h2 | ⟨h2, h3⟩⟩
            · exact ⟨h1, h2⟩
            · omega
        case round =>
          clear hO hpw hm hln hb S
          obtain ⟨k, S, hk, rfl, hO, hpw, hm, hln, hb⟩ := hrel
          by_cases hlt : k < l.length
          · obtain ⟨b, off, p, c, rfl, hbl, ht, _⟩ := (h.below hb).at hlt
            have g1 := ht.2.1
            rw [hpg.out k hlt] at g1
            clear ht
            obtain ⟨x, hx⟩ : ∃ x, pr k = x := ⟨_, rfl⟩
            have Hx : Hid (pr k = x) := hx
            rw [hx] at g1
            clear hx
            by_cases hxP : x = P
            · have hq : (x == P) = true := by simp [hxP]
              have HxP : Hid (x = P) := hxP
              clear hxP
              have hsl : (S.length : Int) ≤ 44 := by have := hln.out; omega
              go_wp2_with (at_builtin; refine wpList_append_own _ rfl _ _ 25 rfl w.heap.size 3 i0 (.int .i64 0) 1 8 Tryd.underlying25 hi hz0' hz1 hz2 rfl (by decide) _ _ _ rfl (hO.alloc _) ⟨wr.heap.size, 0, none⟩ 1 1 [.int .i64 k] rfl rfl ?c1 ?c2 ?c3 ?c4 ?c5 ?_)
              case c1 => exact new_int wr k 3
              case c2 => intro u hu; simp at hu; subst hu; rfl
              case c3 => unfold maxLen; omega
              case c4 => omega
              case c5 => have := hb.size; simp; omega
              intro v' w3 hown' hgr _
              have hbe : Below w.heap.size w w3 := (hb.alloc hb.size _).grown hgr (by have := hb.size; simp; omega) (fun x hx => (hO.lt x hx).1)
              go_wp2_with fail
              refine ⟨⟨k + 1, S ++ [(k : Int)], by omega, by go_num, ?_, ?_, ?_, ?_, hbe⟩, by simp [intOf]; omega⟩
              · rw [intCells_snoc, List.length_append]
                exact hown'
              · refine pair_snoc hpw.out (fun y hy => ?_)
                have := (hm.out y).1 hy
                unfold bef
                rw [Hx.out, HxP.out]
                omega
              · intro y
                rw [List.mem_append, hm.out y]
                have e1 := Hx.out
                have e2 := HxP.out
                simp only [List.mem_singleton]
                constructor
                · rintro (⟨h1, h2⟩ | rfl)
                  · exact ⟨h1, by omega⟩
                  · exact ⟨by omega, .inr ⟨by omega, by omega⟩⟩
                · rintro ⟨h1, h2⟩
                  by_cases e : y = k
                  · exact .inr e
                  · exact .inl ⟨h1, by omega⟩
              · show _ ≤ _
                have := hln.out
                rw [List.length_append]
                simp
                omega
            · have hq : (x == P) = false := by simpa using hxP
              have HxP : Hid (x ≠ P) := hxP
              clear hxP
              go_wp2_with fail
              refine ⟨⟨k + 1, S, by omega, by go_num, hO, hpw.out, ?_, (by have := hln.out; omega : (S.length : Int) ≤ (9 - P) * 4 + (k + 1 : Nat)), hb⟩, by simp [intOf]; omega⟩
              intro y
              rw [hm.out y]
              have e1 := Hx.out
              have e2 := HxP.out
              constructor
              · rintro ⟨h1, h2⟩; exact ⟨h1, by omega⟩
              · rintro ⟨h1, h2⟩
                refine ⟨h1, ?_⟩
                by_cases e : y = k
                · subst e; omega
                · omega
          · go_wp2_with fail
            refine ⟨⟨P - 1, S, by go_num, by omega, by omega, hO, hpw.out, ?_, (by have := hln.out; omega : (S.length : Int) ≤ (9 - (P - 1)) * 4), hb⟩, by simp [intOf]; omega⟩
            intro y
            rw [hm.out y]
            constructor
            · rintro ⟨h1, h2⟩; exact ⟨h1, by omega⟩
            · rintro ⟨h1, h2⟩; exact ⟨h1, by omega⟩
      · go_wp2_with fail
        go_ret
        have e : S = ordS pr l.length := ordS_of pr l.length S hpw.out (fun y => by
          rw [hm.out y]
          constructor
          · rintro ⟨h1, h2⟩; exact h1
          · intro h1
            have := hpk.out y h1.1 h1.2
            exact ⟨h1, by omega⟩)
        rw [← e]
        exact ordPost_of hO hb
end Go.Proofs.YtcaodkkomoaphaaDoor
