/- What comes later: the program's PlusOf. -/
import Derived.Test.YtmomoboedoljfaaPlus4
namespace Go.Proofs.Ytmomoboedoljfaa
open Go.ChangeShapes Go.WideShapes Go.ChangeAt Go.RowKit
set_option linter.unusedVariables false
set_option maxRecDepth 4000
theorem ocmp_tl {x y : Occ} (h : ocmp x y < 0) : x.tl ≤ y.tl := by
  rw [ocmp_def] at h
  by_cases h0 : cmpI x.tl y.tl = 0
  · have := cmpI_zero.1 h0
    omega
  · rw [if_neg h0] at h
    have := cmpI_neg.1 h
    omega
theorem tw_filter (c : Int) : ∀ (l : List Occ), AscO l → l.takeWhile (fun y => decide (y.tl ≤ c)) = l.filter (fun y => decide (y.tl ≤ c))
  | [], _ => rfl
  | x :: r, h => by
    obtain ⟨h1, h2⟩ := List.pairwise_cons.1 h
    by_cases hx : x.tl ≤ c
    · simp [hx, tw_filter c r h2]
    · have : r.filter (fun y => decide (y.tl ≤ c)) = [] := by
        rw [List.filter_eq_nil_iff]
        intro y hy
        have := ocmp_tl (h1 y hy)
        simp
        omega
      simp [hx, this]
theorem late_plus {n till : Int} {l : List Occ} {L : List OC} (hl : AscO l) (hL : L.map (·.o) = l.map (laterO n)) {m : Int} (hm : (if 2000 < till then 2000 else till) = m) : (L.takeWhile (tillB m)).map (·.o) = plusF n till l := by
  have e1 : (L.takeWhile (tillB m)).map (·.o) = (L.map (·.o)).takeWhile (fun y => decide (y.tl ≤ m)) := by
    rw [List.takeWhile_map]
    rfl
  rw [e1, hL, tw_filter m _ (asc_later hl), List.filter_map]
  unfold plusF
  congr 1
  apply List.filter_congr
  intro x _
  show decide (x.tl + n ≤ m) = (decide (x.tl + n ≤ till) && decide (x.tl + n ≤ 2000))
  rw [← Bool.decide_and, decide_eq_decide]
  split at hm <;> omega
theorem own_keep {w u : World} {B : Nat} {a : Option Addr} {l : List Int} (h : IntOwn w B a l) (hs : w.heap.size ≤ u.heap.size) (hk : ∀ q, a = some q → q.block < w.heap.size → u.heap[q.block]? = w.heap[q.block]?) : IntOwn u B a l := by
  refine ⟨h.len, h.ge, fun hl => ?_⟩
  obtain ⟨b, e, h1, h2, h3⟩ := h.row hl
  exact ⟨b, e, h1, by omega, h3.of_block (hk _ e h2)⟩
theorem late_snoc {w w' : World} {P cv : Nat} {av : Option Addr} {L : List OC} {x : OC} (hO : OccsOwn w (P + 1) (.slice av L.length cv) L) (hx : IntOwn w (P + 1) x.a x.o.ids) (hxl : ∀ p, x.a = some p → p.block < w.heap.size)
    (hxo : ∀ p, x.a = some p → (Value.slice av L.length cv).ownBlock ≠ some p.block) (hxa : ∀ y ∈ L, y.Apart x) (hPw : P ≤ w.heap.size) (h : LatePost w P (P + 1) av cv L x w') :
    ∃ a' c', w'.heap[P]? = some (.cells #[.slice a' (L ++ [x]).length c'] 57 (0, 0)) ∧ OccsOwn w' (P + 1) (.slice a' (L ++ [x]).length c') (L ++ [x]) ∧ Below P w w' := by
  obtain ⟨a', c', hP, hrow, hos, htp, hou, hsz, hblk, hown⟩ := h
  have hlen : (L ++ [x]).length = L.length + 1 := by simp
  have hmem : ∀ y ∈ L ++ [x], IntOwn w (P + 1) y.a y.o.ids ∧ (∀ p, y.a = some p → p.block < w.heap.size) ∧ (∀ p, y.a = some p → (Value.slice av L.length cv).ownBlock ≠ some p.block) := by
    intro y hy
    rcases List.mem_append.1 hy with hy | hy
    · exact ⟨hO.one y hy, hO.lt y hy, hO.off y hy⟩
    · simp only [List.mem_singleton] at hy
      subst hy
      exact ⟨hx, hxl, hxo⟩
  refine ⟨a', c', by rw [hlen]; exact hP, ⟨by rw [hlen]; exact hrow, fun y hy => ?_, fun y hy p hp => Nat.lt_of_lt_of_le ((hmem y hy).2.1 p hp) hsz, fun y hy p hp e => ?_, ?_⟩, ⟨hos, htp, hou, hsz, fun i hi => hblk i (Nat.lt_of_lt_of_le hi hPw) (by omega) (fun e => by
    have := (hO.row.lt i e).1
    omega)⟩⟩
  · refine own_keep (hmem y hy).1 hsz (fun q hq hlt => hblk q.block hlt (fun e => ?_) ((hmem y hy).2.2 q hq))
    have := (hmem y hy).1.ge q hq
    omega
  · rw [hlen] at e
    rcases hown _ e with h1 | h1
    · exact (hmem y hy).2.2 p hp h1
    · have := (hmem y hy).2.1 p hp; omega
  · refine List.pairwise_append.2 ⟨hO.apart, List.pairwise_singleton _ _, fun y hy z hz => ?_⟩
    simp only [List.mem_singleton] at hz
    subst hz
    exact hxa y hy
set_option maxHeartbeats 2000000 in
theorem implPlusOf_any (a : Option Addr) (cap : Nat) (l : List Occ) (n till : Int) (w : World) (h : Occs w a l) (hn0 : -100000 ≤ n) (hn1 : n ≤ 100000) (ht0 : -100000 ≤ till) (ht1 : till ≤ 100000) :
    Calls Try.prog 12 #[.slice a l.length cap, .int .i64 n, .int .i64 till] w (ToldPost w (plusR l n till).1 (plusR l n till).2) := by
  cases h1 : occsOkB l
  · have e : plusR l n till = ([], false) := by simp [plusR, h1]
    rw [e]
    go_enter Try.func12, Try.ntmps12
    go_wp2_with fail
    refine (implOccsOk_any _ _ l _ h).mono ?_
    rintro e w1 ⟨rfl, hb1⟩
    rw [h1]
    go_wp2
    go_ret2
    exact ⟨_, [], rfl, rfl, OccsOwn.nil _ _, hb1⟩
  by_cases hin : 1 ≤ n ∧ n ≤ 20
  · have e : plusR l n till = (plusF n till l, true) := by
      unfold plusR
      rw [if_pos]
      simp only [h1, Bool.and_eq_true, decide_eq_true_eq, true_and]
      exact hin
    rw [e]
    obtain ⟨hlo, hhi⟩ := hin
    have hokl : ∀ o ∈ l, o.Ok := ok_each h1
    have hl40 := ok_len h1
    have H1 : Hid (occsOkB l = true) := h1
    have Hokl : Hid (∀ o ∈ l, o.Ok) := hokl
    obtain ⟨N, hN⟩ : ∃ N, l.length = N := ⟨_, rfl⟩
    have HN : Hid (l.length = N) := hN
    have himpl := implOccsOk_any a cap l w h
    rw [h1, hN] at himpl
    rw [hN] at hl40 ⊢
    clear e hokl h1 hN
    obtain ⟨m, hm⟩ : ∃ m, (if 2000 < till then 2000 else till) = m := ⟨_, rfl⟩
    have Hm : Hid ((if 2000 < till then 2000 else till) = m) := hm
    go_enter Try.func12, Try.ntmps12
    go_wp2_with fail
    refine himpl.mono ?_
    rintro e w1 ⟨rfl, hb1⟩
    have hwi := within_any n 1 20 w1
    rw [decide_eq_true hlo, decide_eq_true hhi] at hwi
    go_wp2_with fail
    refine hwi.mono ?_
    rintro e wx ⟨rfl, rfl⟩
    have hE1 := h.below hb1
    have hP1 := heap_alloc_new wx (.cells #[.slice none 0 0] 57)
    have hba := oBelow_new wx (.cells #[.slice none 0 0] 57)
    clear himpl hwi
    go_wp2_with fail
    go_loopw [21] (fun vi wr => ∃ (j : Nat) (L : List OC) (av : Option Addr) (cv : Nat), j ≤ N ∧ vi = .int .i64 j ∧ wr.heap[wx.heap.size]? = some (.cells #[.slice av L.length cv] 57 (0, 0)) ∧ OccsOwn wr (wx.heap.size + 1) (.slice av L.length cv) L ∧ Hid (L.map (·.o) = (l.take j).map (laterO n)) ∧ Below wx.heap.size wx wr) (fun vi _ => N - (intOf vi).toNat)
    case atStart => exact ⟨0, [], none, 0, Nat.zero_le _, rfl, hP1, OccsOwn.nil _ _, rfl, hba⟩
    case round =>
      obtain ⟨j, L, av, cv, hj, rfl, hP, hO, hL, hbr⟩ := hrel
      have hE := hE1.below hbr
      have hPl := (Array.getElem?_eq_some_iff.1 hP).1
      have hLn : L.length ≤ 40 := by
        have := congrArg List.length hL.out
        simp only [List.length_map, List.length_take] at this
        omega
      by_cases hjn : j < N
      · have hjn' : (j : Int) < (N : Int) := by omega
        have hlj : j < l.length := by rw [HN.out]; exact hjn
        obtain ⟨b, off, q, cq, rfl, hbl, x0, x1, x2, hI⟩ := hE.at hlj
        have hok : l[j].Ok := Hokl.out _ (List.getElem_mem hlj)
        obtain ⟨g1, g2, _, _⟩ := hok.good
        have hbd : 1 ≤ l[j].tl ∧ l[j].tl ≤ 2000 := by
          have b : occOkB l[j].fr l[j].tl l[j].ids = true := hok
          simp only [occOkB, Bool.and_eq_true, decide_eq_true_eq] at b
          omega
        have hasc := asc_ok H1.out
        have hend : ∀ y ∈ L.map (·.o), ocmp y (laterO n l[j]) < 0 := by
          rw [hL.out]
          intro y hy
          obtain ⟨z, hz, rfl⟩ := List.mem_map.1 hy
          obtain ⟨i, hi, rfl⟩ := List.getElem_of_mem hz
          rw [List.length_take] at hi
          rw [ocmp_later, List.getElem_take]
          exact List.pairwise_iff_getElem.1 hasc i j (by omega) hlj (by omega)
        have hascL : AscO (L.map (·.o)) := by
          rw [hL.out]
          exact asc_later (hasc.sublist (List.take_sublist j l))
        have hstep : (l.take j).map (laterO n) ++ [laterO n l[j]] = (l.take (j + 1)).map (laterO n) := by
          rw [List.take_succ_eq_append_getElem hlj, List.map_append]
          rfl
        obtain ⟨o, ho⟩ : ∃ o, l[j] = o := ⟨_, rfl⟩
        rw [ho] at x0 x1 x2 hI g1 g2 hbd hend hstep
        have Hstep : Hid _ := hstep
        have hbb := oBelow_new wr (.cells #[.int .i64 o.fr, .int .i64 o.tl, .slice q o.ids.length cq] 32)
        have hsb : wr.heap.size < (wr.alloc (.cells #[.int .i64 o.fr, .int .i64 o.tl, .slice q o.ids.length cq] 32)).heap.size := by simp
        have hxb := box3_new wr (.int .i64 o.fr) (.int .i64 o.tl) (.slice q o.ids.length cq) 32
        obtain ⟨wb, hwb⟩ : ∃ wb, wr.alloc (.cells #[.int .i64 o.fr, .int .i64 o.tl, .slice q o.ids.length cq] 32) = wb := ⟨_, rfl⟩
        rw [hwb] at hbb hsb hxb
        obtain ⟨y0, y1, y2⟩ := hxb.cells
        have hlat := occLater_any o q cq n wb (hI.below hbb) g1 (by omega) (by omega) (by omega) (by omega) (by omega)
        clear hstep ho hok hasc
        go_wp2_with fail
        refine hlat.mono ?_
        rintro e v1 ⟨a1, k1, rfl, hi1, hl1, hv1⟩
        have bv : Below wr.heap.size wr v1 := hbb.trans (hv1.mono hbb.size)
        have hPv := (bv.block _ hPl).trans hP
        have hOv := hO.below bv
        have hput := putLate_any wx.heap.size (wx.heap.size + 1) av cv L ⟨laterO n o, a1, k1⟩ v1 hPv hOv.row (fun y hy => (hOv.one y hy).ints) hascL hi1.ints hend (by omega) (by omega) (Nat.le_trans hPl bv.size)
        clear hlat x0 x1 x2 y0 y1 y2 hxb
        go_wp2_with fail
        refine hput.mono ?_
        rintro e v2 ⟨rfl, hlate⟩
        obtain ⟨a2, c2, hP2, hO2, hb2⟩ := late_snoc hOv (own_low hi1 (by omega)) hl1 (fun p hp e => by
          have h1 := (hO.row.lt _ e).2
          have h2 := hi1.ge p hp
          omega) (fun y hy p p' hp hp' => by
          have h1 := hO.lt y hy p hp
          have h2 := hi1.ge p' hp'
          omega) (by have := bv.size; omega) hlate
        have hL' : Hid ((L ++ [(⟨laterO n o, a1, k1⟩ : OC)]).map (·.o) = (l.take (j + 1)).map (laterO n)) := by
          show _ = _
          rw [List.map_append, hL.out, ← Hstep.out]
          rfl
        have bfin := (hbr.trans (bv.mono hbr.size)).trans hb2
        clear hput hlate hend hascL
        go_wp2
        exact ⟨⟨j + 1, _, a2, c2, by omega, by go_num, hP2, hO2, hL', bfin⟩, by simp [intOf]; omega⟩
      · have hneg : ¬ ((j : Int) < (N : Int)) := by omega
        have htill := tillLate_any wx.heap.size (wx.heap.size + 1) av cv L m wr hP hO hPl (by omega)
        have hmap := late_plus (asc_ok H1.out) (by rw [hL.out, List.take_of_length_le (by rw [HN.out]; omega)]) Hm.out
        have Hmap : Hid _ := hmap
        have bb := hb1.trans (hbr.mono hb1.size)
        clear hmap
        go_wp2_with fail
        refine htill.mono ?_
        rintro e w9 ⟨v9, rfl, hO9, hb9⟩
        go_wp2
        go_ret2
        exact ⟨v9, _, rfl, Hmap.out, hO9.low (by have := hb1.size; omega), bb.trans (hb9.mono bb.size)⟩
  · have e : plusR l n till = ([], false) := by
      unfold plusR
      rw [if_neg]
      simp only [Bool.and_eq_true, decide_eq_true_eq]
      exact fun h => hin h.2
    have hf : (decide (1 ≤ n) && decide (n ≤ 20)) = false := by
      rw [Bool.eq_false_iff]
      simp only [ne_eq, Bool.and_eq_true, decide_eq_true_eq]
      exact hin
    rw [e]
    have himpl := implOccsOk_any a cap l w h
    rw [h1] at himpl
    go_enter Try.func12, Try.ntmps12
    go_wp2_with fail
    refine himpl.mono ?_
    rintro e w1 ⟨rfl, hb1⟩
    have hwi := within_any n 1 20 w1
    rw [hf] at hwi
    clear himpl hin hf
    go_wp2_with fail
    refine hwi.mono ?_
    rintro e wx ⟨rfl, rfl⟩
    go_wp2
    go_ret2
    exact ⟨_, [], rfl, rfl, OccsOwn.nil _ _, hb1⟩
end Go.Proofs.Ytmomoboedoljfaa
