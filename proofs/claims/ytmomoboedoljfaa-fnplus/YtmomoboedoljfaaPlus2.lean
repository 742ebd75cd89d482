/- What comes later: the specification's PlusOf. -/
import Derived.Test.YtmomoboedoljfaaPlus1
namespace Go.Proofs.Ytmomoboedoljfaa
open Go.ChangeShapes Go.WideShapes Go.ChangeAt Go.RowKit
set_option linter.unusedVariables false
set_option maxRecDepth 4000
/-- What PlusOf tells. -/
def plusR (l : List Occ) (n till : Int) : List Occ × Bool := if occsOkB l && (decide (1 ≤ n) && decide (n ≤ 20)) then (plusF n till l, true) else ([], false)
set_option maxHeartbeats 2000000 in
theorem specPlusOf_any (a : Option Addr) (cap : Nat) (l : List Occ) (n till : Int) (w : World) (h : Occs w a l) (hn0 : -100000 ≤ n) (hn1 : n ≤ 100000) (ht0 : -100000 ≤ till) (ht1 : till ≤ 100000) :
    Calls Try.prog 13 #[.slice a l.length cap, .int .i64 n, .int .i64 till] w (ToldPost w (plusR l n till).1 (plusR l n till).2) := by
  cases h1 : occsOkB l
  · have e : plusR l n till = ([], false) := by simp [plusR, h1]
    rw [e]
    go_enter Try.func13, Try.ntmps13
    go_wp2_with fail
    refine (specOccsOk_any _ _ l _ h).mono ?_
    rintro e w1 ⟨rfl, hb1⟩
    rw [h1]
    go_wp2
    go_ret2
    exact ⟨_, [], rfl, rfl, (OccsOwn.made w1).low hb1.size, hb1.alloc hb1.size _⟩
  by_cases hlo : n < 1
  · have e : plusR l n till = ([], false) := by
      unfold plusR
      rw [if_neg]
      simp only [Bool.and_eq_true, decide_eq_true_eq]
      omega
    rw [e]
    go_enter Try.func13, Try.ntmps13
    go_wp2_with fail
    refine (specOccsOk_any _ _ l _ h).mono ?_
    rintro e w1 ⟨rfl, hb1⟩
    rw [h1]
    go_wp2
    go_ret2
    exact ⟨_, [], rfl, rfl, (OccsOwn.made w1).low hb1.size, hb1.alloc hb1.size _⟩
  by_cases hhi : 20 < n
  · have e : plusR l n till = ([], false) := by
      unfold plusR
      rw [if_neg]
      simp only [Bool.and_eq_true, decide_eq_true_eq]
      omega
    rw [e]
    go_enter Try.func13, Try.ntmps13
    go_wp2_with fail
    refine (specOccsOk_any _ _ l _ h).mono ?_
    rintro e w1 ⟨rfl, hb1⟩
    rw [h1]
    go_wp2
    go_ret2
    exact ⟨_, [], rfl, rfl, (OccsOwn.made w1).low hb1.size, hb1.alloc hb1.size _⟩
  have e : plusR l n till = (plusF n till l, true) := by
    unfold plusR
    rw [if_pos]
    simp only [h1, Bool.and_eq_true, decide_eq_true_eq, true_and]
    omega
  rw [e]
  have hokl : ∀ o ∈ l, o.Ok := ok_each h1
  have hl40 := ok_len h1
  have H1 : Hid (occsOkB l = true) := h1
  have Hokl : Hid (∀ o ∈ l, o.Ok) := hokl
  obtain ⟨N, hN⟩ : ∃ N, l.length = N := ⟨_, rfl⟩
  have HN : Hid (l.length = N) := hN
  have hwt : IntKind.i64.wrap (till - n) = till - n := by rw [IntKind.wrap_i64]; omega
  have hspec := specOccsOk_any a cap l w h
  rw [h1] at hspec
  rw [hN] at hspec hl40 ⊢
  clear e hokl h1 hN
  go_enter Try.func13, Try.ntmps13
  go_wp2_with fail
  refine hspec.mono ?_
  rintro e w1 ⟨rfl, hb1⟩
  have hE1 := h.below hb1
  have hO1 := OccsOwn.made w1
  have hm1 := oBelow_new w1 (.cells #[] 32)
  clear hspec
  go_wp2_with fail
  go_loopw [8, 9] (fun vo vi wr => ∃ (j : Nat) (L : List OC) (a' : Option Addr) (c' : Nat), j ≤ N ∧ vi = .int .i64 j ∧ vo = .slice a' L.length c' ∧ L.map (·.o) = plusF n till (l.take j) ∧ OccsOwn wr w1.heap.size (.slice a' L.length c') L ∧ Below w1.heap.size w1 wr) (fun _ vi _ => N - (intOf vi).toNat)
  case atStart => exact ⟨0, [], _, _, Nat.zero_le _, rfl, rfl, rfl, hO1, hm1⟩
  case round =>
    obtain ⟨j, L, a', c', hj, rfl, rfl, hL, hO, hbr⟩ := hrel
    have hE := hE1.below hbr
    have HL : Hid (L.map (·.o) = plusF n till (l.take j)) := hL
    clear hL hO1 hm1
    by_cases hjn : j < N
    · have hjn' : (j : Int) < (N : Int) := by omega
      have hlj : j < l.length := by rw [HN.out]; exact hjn
      obtain ⟨b, off, q, cq, rfl, hbl, x0, x1, x2, hI⟩ := hE.at hlj
      have hok : l[j].Ok := Hokl.out _ (List.getElem_mem hlj)
      obtain ⟨g1, g2, _, _⟩ := hok.good
      have hbd : 1 ≤ l[j].tl ∧ l[j].tl ≤ 2000 := by
        have b : occOkB l[j].fr l[j].tl l[j].ids = true := hok
        simp only [occOkB, Bool.and_eq_true, decide_eq_true_eq] at b
        omega
      have hasc := asc_ok H1.out
      have hstep := fun hin => plus_step (n := n) (till := till) hasc hlj hin
      have hskip := fun hin => plus_skip (n := n) (till := till) hlj hin
      have hin : inTime n till l[j] = (decide (l[j].tl ≤ till - n) && decide (l[j].tl + n ≤ 2000)) := by
        unfold inTime
        congr 1
        exact decide_eq_decide.2 (by omega)
      rw [hin] at hstep hskip
      obtain ⟨o, ho⟩ : ∃ o, l[j] = o := ⟨_, rfl⟩
      rw [ho] at x0 x1 x2 hI hok g1 g2 hbd hstep hskip
      have Hstep : Hid _ := hstep
      have Hskip : Hid _ := hskip
      have Hok : Hid o.Ok := hok
      have hwo : IntKind.i64.wrap (o.tl + n) = o.tl + n := by rw [IntKind.wrap_i64]; omega
      clear hstep hskip hin ho hok hasc
      by_cases h1 : o.tl ≤ till - n
      · by_cases h2 : o.tl + n ≤ 2000
        · go_wp2_with fail
          refine (l5Later_any o q cq n wr hI g1 (by omega) (by omega) (by omega) (by omega) (by omega)).mono ?_
          rintro e v1 ⟨a1, k1, rfl, hi1, hl1, hv1⟩
          have hok2 : (laterO n o).Ok := later_ok Hok.out (by omega) h2
          have hput := l3Put_own w1.heap.size (.slice a' L.length c') L (laterO n o) a1 k1 v1 (hO.below hv1) (Nat.le_trans hbr.size hv1.size) hi1.ints hok2 (oks_of_map HL.out (plus_ok (fun x hx => Hokl.out x (List.mem_of_mem_take hx)) (by omega))) (by
            have hz := congrArg List.length HL.out
            have hz2 := plus_len n till (l.take j)
            simp only [List.length_map, List.length_take] at hz hz2
            omega)
          have hlen1 : (laterO n o).ids.length = o.ids.length := rfl
          have hfin := Hstep.out (by simp [h1, h2])
          have Hfin : Hid (putF (laterO n o) (plusF n till (l.take j)) = plusF n till (l.take (j + 1))) := hfin
          clear hfin hlen1
          go_wp2_with fail
          refine hput.mono ?_
          rintro e v2 ⟨vv, M, rfl, hM, hOM, hv2⟩
          obtain ⟨a7, c7, rfl⟩ := pOwns_slice hOM.row
          have hbv := (hbr.trans (hv1.mono hbr.size)).trans hv2
          clear hput x0 x1 x2
          go_wp2
          exact ⟨⟨j + 1, M, a7, c7, by omega, by go_num, rfl, by rw [hM, HL.out, Hfin.out], hOM, hbv⟩, by simp [intOf]; omega⟩
        · have hfin := Hskip.out (by simp [h2])
          go_wp2
          exact ⟨⟨j + 1, L, a', c', by omega, by go_num, rfl, by rw [HL.out, hfin], hO, hbr⟩, by simp [intOf]; omega⟩
      · have hfin := Hskip.out (by simp [h1])
        go_wp2
        exact ⟨⟨j + 1, L, a', c', by omega, by go_num, rfl, by rw [HL.out, hfin], hO, hbr⟩, by simp [intOf]; omega⟩
    · have hLl : L.map (·.o) = plusF n till l := by rw [HL.out, List.take_of_length_le (by rw [HN.out]; omega)]
      have hneg : ¬ ((j : Int) < (N : Int)) := by omega
      have hlen : L.length = (plusF n till l).length := by rw [← hLl, List.length_map]
      have hocc := hO.occs
      rw [hLl] at hocc
      have htold := l4Told_any a' c' (plusF n till l) wr hocc (plus_ok Hokl.out (by omega))
      have e : toldF (plusF n till l) = (plusF n till l, true) := by
        unfold toldF
        rw [if_neg]
        have := plus_len n till l
        rw [HN.out] at this
        omega
      rw [e] at htold
      rw [hlen]
      clear e hlen hLl
      go_wp2_with fail
      refine htold.mono ?_
      rintro e w9 ⟨v9, L9, rfl, hL9, hO9, hb9⟩
      have bb := hb1.trans (hbr.mono hb1.size)
      clear htold
      go_wp2
      go_ret2
      exact ⟨v9, L9, rfl, hL9, hO9.low bb.size, bb.trans (hb9.mono bb.size)⟩
end Go.Proofs.Ytmomoboedoljfaa
