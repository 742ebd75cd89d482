/- Whatever bytes the rules are drawn by: their order is that of their priorities, and turned round they follow in the same order where no two are of one priority. No condition. -/
import Derived.Test.YtcaodkkomoaphaaDoorRuD2
import Derived.Test.YtcaodkkomoaphaaDoorRuTn
import Derived.Test.YtcaodkkomoaphaaDoorCards
import Derived.Test.YtcaodkkomoaphaaDoorTie
import Derived.Deep.DeepHandedRow
import Derived.LaidLaws
import Derived.MakeChecks
import Derived.Stop.ErrReads
import Derived.RowKitTokens
namespace Go.Proofs.YtcaodkkomoaphaaDoor.fnRulesTurn
open Go.ChangeShapes Go.WideShapes Go.ChangeAt Go.RowKit Go.Deep
set_option linter.unusedVariables false
set_option maxRecDepth 4000

theorem ord_len (l : List Ru) : (ordL l).length = if rulesOkB l then l.length else 0 := by
  unfold ordL
  split
  · exact ordS_len _ _
  · rfl
theorem take_snoc (q : List RH) (j K : Nat) (h : j + K + 1 = q.length) (hK : K < q.length) : (q.reverse).take j ++ [q[K]] = (q.reverse).take (j + 1) := by
  rw [List.take_succ_eq_append_getElem (by simp; omega), List.getElem_reverse]
  congr 3
  omega
theorem ints_of {w : World} {B : Nat} {a : Option Addr} {l : List Int} (h : IntOwn w B a l) : Ints w a l := h.ints

set_option maxHeartbeats 4000000 in
theorem walk (a : Option Addr) (cap : Nat) (bs : List Int) (w : World) (t : TypeId) (v : Value) (h : Bytes w a bs ∧ bs.length ≤ cap) (hE : ErrAt w t v) :
    Calls Tryd.prog 3 #[.slice a bs.length cap] w fun e w' => e = .returned (.bool true) ∧ Below w.heap.size w w' := by
  obtain ⟨hB, hc⟩ := h
  have hlen := hB.len
  unfold maxLen at hlen
  by_cases hbig : (1048576 : Int) < (bs.length : Int)
  · go_enter Tryd.func3, Tryd.ntmps3
    go_wp2
    go_ret
    exact ⟨rfl, Below.refl _ _⟩
  go_enter Tryd.func3, Tryd.ntmps3
  go_wp2_with fail
  refine (drawRulesOrder_any _ _ bs _ hB hc).mono ?_
  rintro e w1 ⟨v1, q, rfl, hO1, hq4, hbnd, hb1⟩
  obtain ⟨va, vc, rfl, hvc, hvm⟩ := hO1.slice
  unfold maxLen at hvm
  have hr1 := hO1.rus (by unfold maxLen; omega)
  have hE1 := hE.below hb1
  obtain ⟨L, hL⟩ : ∃ L, q.map (·.x) = L := ⟨_, rfl⟩
  have hLq : L.length = q.length := by rw [← hL]; simp
  have hks : ∀ x ∈ L, x.ks.size ≤ 1048576 := fun x hx => by
    rw [← hL] at hx
    obtain ⟨y, hy, rfl⟩ := List.mem_map.1 hx
    have := (hbnd y hy).1
    omega
  rw [hL] at hr1
  have hLg : ∀ (i : Nat) (hi : i < q.length) (hi' : i < L.length), L[i] = q[i].x := fun i hi hi' => by subst hL; simp
  obtain ⟨n, hn⟩ : ∃ n, q.length = n := ⟨_, rfl⟩
  have Hn : Hid (q.length = n) := hn
  have HL : Hid (L.length = n) := by show _ = _; omega
  rw [hn] at hO1 hvc hq4 ⊢
  have hI := implOrder_any va vc L w1 t v hE1 hr1 (by omega) (by omega)
  rw [show L.length = n from HL.out] at hI
  have hS := fun u => specOrder_any va vc L u
  rw [show L.length = n from HL.out] at hS
  have hSo := fun u => specRulesOk_any va vc L u
  rw [show L.length = n from HL.out] at hSo
  have HLq : Hid (q.map (·.x) = L) := hL
  clear hn hLq hL
  go_wp2_with fail
  refine hI.mono ?_
  rintro e w2 ⟨oa, oc, rfl, hIo, hob, hb2⟩
  have b02 := hb1.trans (hb2.mono hb1.size)
  have hr2 := hr1.below hb2
  have hO2 := hO1.below hb2
  have hol := hIo.ints.len
  unfold maxLen at hol
  cases hok : rulesOkB L
  · have h0 : (ordL L).length = 0 := by rw [ord_len, hok]; rfl
    rw [hok] at hSo
    obtain ⟨m, hm⟩ : ∃ m, (ordL L).length = m := ⟨_, rfl⟩
    rw [h0] at hm
    subst hm
    rw [h0]
    go_wp2_with fail
    refine (hS _ hr2 hks).mono ?_
    rintro e w3 ⟨sa, sc, rfl, hIs, hsb, hb3⟩
    rw [h0]
    have b03 := b02.trans (hb3.mono b02.size)
    go_wp2_with fail
    refine (hSo _ (hr2.below hb3) hks).mono ?_
    rintro e w4 ⟨rfl, hb4⟩
    have b04 := b03.trans (hb4.mono b03.size)
    go_wp2_with fail
    refine (hS _ ((hr2.below hb3).below hb4) hks).mono ?_
    rintro e w5 ⟨sa', sc', rfl, hIs', hsb', hb5⟩
    rw [h0]
    go_wp2
    go_ret
    exact ⟨rfl, b04.trans (hb5.mono b04.size)⟩
  have hol2 : (ordL L).length = n := by rw [ord_len, hok]; exact HL.out
  rw [hok] at hSo
  have hOL : ordL L = ordS (priOf L) n := by unfold ordL; rw [hok, HL.out]; rfl
  rw [hol2]
  go_wp2_with fail
  refine (hS _ hr2 hks).mono ?_
  rintro e w3 ⟨sa, sc, rfl, hIs, hsb, hb3⟩
  rw [hol2]
  have b03 := b02.trans (hb3.mono b02.size)
  go_wp2_with fail
  refine (hSo _ (hr2.below hb3) hks).mono ?_
  rintro e w4 ⟨rfl, hb4⟩
  have b04 := b03.trans (hb4.mono b03.size)
  have b24 := hb3.trans (hb4.mono hb3.size)
  have b14 := hb2.trans (b24.mono hb2.size)
  have hr4 := hr2.below b24
  have hO4 := hO2.below b24
  have hI4 := (ints_of hIo).below b24
  clear hIs hsb hb3 hb4 hb2 hI hr2 hO2 hO1 hr1 b03 b02
  by_cases hn0 : n = 0
  · subst hn0
    go_wp2_with fail
    refine (hS _ hr4 hks).mono ?_
    rintro e w5 ⟨sa', sc', rfl, hIs', hsb', hb5⟩
    rw [hol2]
    go_wp2
    go_ret
    exact ⟨rfl, b04.trans (hb5.mono b04.size)⟩
  have hnz : ((n : Int) == 0) = false := by simp; omega
  clear hS hSo
  obtain ⟨w5, hw5⟩ : ∃ w5, w4.alloc (.cells #[] 32) = w5 := ⟨_, rfl⟩
  have hb5 := xBelow_new w4 (.cells #[] 32)
  have o5 : (w4.alloc (.cells #[] 32)).ownsRow w4.heap.size 32 12 (.slice (some ⟨w4.heap.size, 0, none⟩) 0 0) 0 [] := World.ownsRow_made _ _ _ (Nat.le_refl _) (by simp [maxLen]) rfl
  rw [hw5] at hb5 o5
  have hwl : w.heap.size ≤ w4.heap.size := b04.size
  have X5 : Hid (RuOwn w5 w.heap.size (.slice (some ⟨w4.heap.size, 0, none⟩) 0 0) ((q.reverse).take 0)) := ⟨o5.mono hwl, fun y hy => by simp at hy⟩
  go_wp2
  go_loopw [5, 6] (fun x i wr => ∃ (j m : Nat), i = .int .i64 ((m : Int) - 1) ∧ j + m = n ∧ Hid (RuOwn wr w.heap.size x ((q.reverse).take j)) ∧ Hid (∀ k, x.ownBlock = some k → w4.heap.size ≤ k) ∧ Below w4.heap.size w4 wr ∧
      Hid (∀ i' k, m ≤ i' → i' < n → k < i' → priOf L (k : Int) ≠ priOf L (i' : Int))) (fun _ i _ => (intOf i + 1).toNat)
  case atStart => exact ⟨0, n, by go_num, by omega, X5, (fun k hk => by have : w4.heap.size = k := Option.some.inj hk; omega : ∀ k, (Value.slice (some ⟨w4.heap.size, 0, none⟩) 0 0).ownBlock = some k → w4.heap.size ≤ k), hb5, (by intro i' k h1 h2 h3; omega : ∀ i' k : Nat, n ≤ i' → i' < n → k < i' → priOf L (k : Int) ≠ priOf L (i' : Int))⟩
  case round =>
    revert hrel
    generalize wr = wo
    intro hrel
    obtain ⟨j, m, rfl, hjm, hX, hXb, hb, hdis⟩ := hrel
    obtain ⟨xa, xc, rfl, hxc, hxm⟩ := hX.out.slice
    unfold maxLen at hxm
    have hjl : ((q.reverse).take j).length = j := by rw [List.length_take, List.length_reverse, Hn.out]; omega
    rw [hjl] at hxc hX hXb ⊢
    have hOw := hO4.below hb
    have hrw := hr4.below hb
    have bo := b04.trans (hb.mono b04.size)
    by_cases hm : 0 < m
    · obtain ⟨K, hK⟩ : ∃ K : Nat, m = K + 1 := ⟨m - 1, by omega⟩
      have HK : Hid (m = K + 1) := hK
      have hm1 : (m : Int) - 1 = (K : Int) := by omega
      have hKn : K < n := by omega
      have hKq : K < q.length := by rw [Hn.out]; exact hKn
      have Hjm : Hid (j + m = n) := hjm
      rw [hm1]
      clear hm1 hK hm hjm
      obtain ⟨g, hg, hgl, ht⟩ := hOw.at hKq
      subst hg
      obtain ⟨hk1, hk2, T, hT0, hTb⟩ := hO4.kids _ (List.getElem_mem hKq)
      have hT := hT0.below hb
      have hs4 := hb.size
      have hpk : Hid ((q[K]).x.pri = priOf L (K : Int)) := by
        show _ = _
        rw [priOf_get (by rw [HL.out]; exact hKn), hLg K hKq (by rw [HL.out]; exact hKn)]
      have hrow := hOw.row
      obtain ⟨y, hy⟩ : ∃ y, q[K] = y := ⟨_, rfl⟩
      have Hy : Hid (q[K] = y) := hy
      rw [hy] at ht hk1 hk2 hT hpk
      clear hT0
      clear hy
      obtain ⟨w7, hw7, v8, w8, hrun, O8, hs7, g8, hv8⟩ := rul_run y hX.out (by rw [hjl]; have := Hjm.out; omega) (Nat.le_trans hwl hb.size) hk1 hk2 (T := T) hT (fun b hb' => ⟨(hTb b hb').1, by have := (hTb b hb').2.1; omega, fun e => by have := hXb.out b e.symm; have := (hTb b hb').2.1; omega⟩)
      obtain ⟨q0, q1, q2, q3, q4, q5, q6, q7, q8, q9, q10, q11⟩ := ht
      have b48 : Below w4.heap.size w4 w8 := by
        have b7w : Below wo.heap.size wo w7 := by rw [← hw7]; exact xBelow_new _ _
        have b7 := hb.trans (b7w.mono hb.size)
        exact b7.trans ⟨g8.1, g8.2, g8.3, g8.4, fun b hb' => g8.5 b (Nat.lt_of_lt_of_le hb' b7.size) (fun e => by have := hXb.out b e.symm; omega)⟩
      go_wp2_with (at_builtin; refine xwpList_append_run rfl (.tmp 47) (.tmp 52) 23 rfl _ _ rfl rfl hrun ?_)
      clear q0 q1 q2 q3 q4 q5 q6 q7 q8 q9 q10 q11 hrun hw7
      go_loopw [7] (fun kk ws => ∃ k : Nat, k ≤ K ∧ kk = .int .i64 k ∧ Hid (∀ k', k' < k → priOf L (k' : Int) ≠ priOf L (K : Int)) ∧ Below w8.heap.size w8 ws) (fun kk _ => K - (intOf kk).toNat)
      case atStart => exact ⟨0, Nat.zero_le _, rfl, (by intro k' h; omega : ∀ k' : Nat, k' < 0 → priOf L (k' : Int) ≠ priOf L (K : Int)), Below.refl _ _⟩
      case round =>
        obtain ⟨k, hk, rfl, hr, hbk⟩ := hrel
        have b4k := b48.trans (hbk.mono b48.size)
        have bwk := b04.trans (b4k.mono b04.size)
        by_cases hlt : k < K
        · have hOk := hO4.below b4k
          obtain ⟨g', hg', hgl', ht'⟩ := hOk.at (k := k) (by omega)
          cases hg'
          obtain ⟨g'', hg'', hgl'', ht''⟩ := hOk.at hKq
          cases hg''
          have c0 := ht'.2.1
          have c1 := ht''.2.1
          have e0 : Hid ((q[k]'(by omega)).x.pri = priOf L (k : Int)) := by
            show _ = _
            rw [priOf_get (by rw [HL.out]; omega), hLg k (by rw [Hn.out]; omega) (by rw [HL.out]; omega)]
          have e1 : Hid ((q[K]).x.pri = priOf L (K : Int)) := by
            show _ = _
            rw [priOf_get (by rw [HL.out]; exact hKn), hLg K hKq (by rw [HL.out]; exact hKn)]
          rw [e0.out] at c0
          rw [e1.out] at c1
          clear ht' ht''
          obtain ⟨P0, hP0⟩ : ∃ P, priOf L (k : Int) = P := ⟨_, rfl⟩
          obtain ⟨P1, hP1⟩ : ∃ P, priOf L (K : Int) = P := ⟨_, rfl⟩
          rw [hP0] at c0
          rw [hP1] at c1
          have HP0 : Hid (priOf L (k : Int) = P0) := hP0
          have HP1 : Hid (priOf L (K : Int) = P1) := hP1
          clear hP0 hP1
          by_cases hev : P0 = P1
          · have hq : (P0 == P1) = true := by simpa using hev
            have hq' : decide (P0 = P1) = true := by simpa using hev
            clear hev
            go_wp2
            go_quiet (fail)
            have hbe : Below w.heap.size w (wr.drewN nq) := bwk.trans ⟨rfl, rfl, rfl, Nat.le_refl _, fun _ _ => rfl⟩
            go_wp2
            go_ret
            exact ⟨rfl, hbe⟩
          · have hq : (P0 == P1) = false := by simpa using hev
            have hq' : decide (P0 = P1) = false := by simpa using hev
            have Hne : Hid (P0 ≠ P1) := hev
            clear hev
            go_wp2
            go_quiet (fail)
            have hbe : Below w8.heap.size w8 (wr.drewN nq) := hbk.trans ⟨rfl, rfl, rfl, Nat.le_refl _, fun _ _ => rfl⟩
            go_wp2
            refine ⟨⟨k + 1, by omega, by go_num, ?_, hbe⟩, by simp [intOf]; omega⟩
            intro k' hk'
            by_cases e : k' = k
            · subst e; rw [HP0.out, HP1.out]; exact Hne.out
            · exact hr.out k' (by omega)
        · have hkK : k = K := by omega
          subst hkK
          go_wp2
          refine ⟨⟨j + 1, k, rfl, ?_, ?_, ?_, b4k, ?_⟩, ?_⟩
          · have := Hjm.out; have := HK.out; omega
          · have e := take_snoc q j k (by have := Hjm.out; have := HK.out; have := Hn.out; omega) hKq
            rw [Hy.out] at e
            rw [← e]
            exact O8.below hbk
          · intro b hb'
            rcases hv8 b hb' with e | e
            · exact hXb.out b e
            · omega
          · intro i' k' h1 h2 h3
            by_cases e : i' = k
            · subst e; exact hr.out k' h3
            · exact hdis.out i' k' (by have := HK.out; omega) h2 h3
          · have := HK.out; simp [intOf]
    · have hm0 : m = 0 := by omega
      subst hm0
      have hjn : j = n := by omega
      subst hjn
      have hqr : (q.reverse).take j = q.reverse := List.take_of_length_le (by rw [List.length_reverse, Hn.out]; omega)
      rw [hqr] at hX
      have hXr := hX.out.rus (by rw [List.length_reverse, Hn.out]; unfold maxLen; omega)
      have eL : (q.reverse).map (·.x) = L.reverse := by rw [List.map_reverse, HLq.out]
      rw [eL] at hXr
      have hI2 := implOrder_any xa xc L.reverse wo t v (hE1.below (b14.trans (hb.mono b14.size))) hXr (by rw [List.length_reverse, HL.out]; omega) (by omega)
      rw [show L.reverse.length = j from by rw [List.length_reverse]; exact HL.out] at hI2
      have hpl : (ordL L.reverse).length = j := by rw [ord_len, rulesOk_rev hok, List.length_reverse, HL.out]; rfl
      have hdp : L.Pairwise (fun x y => x.pri ≠ y.pri) := by
        refine List.pairwise_iff_getElem.2 fun i k hi hk hik => ?_
        rw [HL.out] at hi hk
        have := hdis.out k i (by omega) hk hik
        rwa [priOf_get (by rw [HL.out]; exact hi), priOf_get (by rw [HL.out]; exact hk)] at this
      have hPL : ordL L.reverse = (ordL L).map (fun y => (j : Int) - 1 - y) := by
        have e := ord_rev hdp
        rw [HL.out] at e
        unfold ordL
        rw [rulesOk_rev hok, hok, List.length_reverse, HL.out]
        exact e
      have HPL : Hid (ordL L.reverse = (ordL L).map (fun y => (j : Int) - 1 - y)) := hPL
      have HOL : Hid (ordL L = ordS (priOf L) j) := hOL
      have hIo5 := hI4.below hb
      clear hPL hOL eL hqr hdp hdis hw5 o5 X5 hb5
      go_wp2_with fail
      refine hI2.mono ?_
      rintro e w9 ⟨pa, pc, rfl, hIp, hpb, hb9⟩
      have hIp9 := ints_of hIp
      have hX9 := hX.out.below hb9
      have hO9 := hOw.below hb9
      have hI9 := hIo5.below hb9
      have b9 := bo.trans (hb9.mono bo.size)
      clear hI2 hIp hpb hXr hIo5 hX hOw
      generalize hOP : ordL L.reverse = OP at hIp9 hpl HPL ⊢
      generalize hOO : ordL L = OO at hI9 hol2 HPL HOL
      rw [hpl]
      go_wp2
      go_loopw [9] (fun i ws => ∃ k : Nat, k ≤ j ∧ i = .int .i64 k ∧ Below w9.heap.size w9 ws) (fun i _ => j - (intOf i).toNat)
      case atStart => exact ⟨0, Nat.zero_le _, rfl, Below.refl _ _⟩
      case round =>
        obtain ⟨k, hk, rfl, hbk⟩ := hrel
        have bwk := b9.trans (hbk.mono b9.size)
        by_cases hlt : k < j
        · obtain ⟨ob, oo, hoe, hobl, hoc⟩ := (hI9.below hbk).cells (by omega)
          obtain ⟨pb, po, hpe, hpbl, hpc⟩ := (hIp9.below hbk).cells (by omega)
          have c0 := hoc k (by omega)
          have d0 := hpc k (by omega)
          have hm : OO[k]'(by omega) ∈ ordS (priOf L) j := by rw [← HOL.out]; exact List.getElem_mem _
          have hmb := (ordS_mem _ _ _).1 hm
          obtain ⟨α, hα⟩ : ∃ α : Nat, OO[k]'(by omega) = (α : Int) := ⟨(OO[k]'(by omega)).toNat, by omega⟩
          have hαn : α < j := by omega
          obtain ⟨β, hβ⟩ : ∃ β : Nat, β = j - 1 - α := ⟨_, rfl⟩
          have hβn : β < j := by omega
          have hpβ : OP[k]'(by omega) = (β : Int) := by
            have : OP[k]'(by omega) = (j : Int) - 1 - OO[k]'(by omega) := by
              have e := HPL.out
              subst e
              rw [List.getElem_map]
            rw [this, hα]
            omega
          rw [hα] at c0
          rw [hpβ] at d0
          have hαq : α < q.length := by rw [Hn.out]; exact hαn
          have hβq : β < q.reverse.length := by rw [List.length_reverse, Hn.out]; exact hβn
          obtain ⟨g, hg, hgl, ht⟩ := (hO9.below hbk).at hαq
          obtain ⟨gx, hgx, hgxl, htx⟩ := (hX9.below hbk).at hβq
          have n0 := ht.1
          have n1 := htx.1
          have hrq : (q.reverse[β]'hβq) = q[α] := by
            rw [List.getElem_reverse]
            congr 1
            have := Hn.out
            omega
          rw [hrq] at n1
          obtain ⟨N, hN⟩ : ∃ N, q[α].x.nm = N := ⟨_, rfl⟩
          rw [hN] at n0 n1
          clear ht htx hoc hpc hm hmb hα hpβ hβ hN hrq
          subst hoe hpe hg hgx
          have hd1 : decide ((j : Int) ≤ (k : Int)) = false := by simp; omega
          have hd2 : decide ((k : Int) ≥ (j : Int)) = false := by simp; omega
          have hs2 : (N.toList == N.toList) = true := by simp
          have hs3 : (N.toList != N.toList) = false := by simp
          go_wp2
          go_quiet (fail)
          have hbe : Below w9.heap.size w9 (wr.drewN nq) := hbk.trans ⟨rfl, rfl, rfl, Nat.le_refl _, fun _ _ => rfl⟩
          go_wp2
          exact ⟨⟨k + 1, by omega, by go_num, hbe⟩, by simp [intOf]; omega⟩
        · go_wp2
          go_ret
          exact ⟨rfl, bwk⟩

theorem globErr : Tryd.prog.globalNamed "loop.example/bellman/impl.errExNone" = some 0 := by kernel_rfl
theorem typeErr : (Tryd.prog.globals[0]?).map (·.type) = some 70 := by kernel_rfl
theorem cellsErr : Tryd.prog.cellsOf 96 = 1 := by kernel_rfl
theorem cellsStr : Tryd.prog.cellsOf 9 = 1 := by kernel_rfl
theorem starErr : "*" ++ "errors.errorString" = "*errors.errorString" := by decide
theorem rowErr (u : TypeId) (h : Tryd.prog.typeName? 3 u = some "*errors.errorString") : u = 76 :=
  typeName_ptr_named (nm := "errors.errorString") (by rw [starErr]; kernel_rfl) (by kernel_rfl) (by decide) u (by rw [starErr]; exact h)
/-- The sentinel is an interface value that holds something. -/
theorem sentinel {W : World} (h : laidMetH Tryd.prog Rows.fnRulesTurnRow.laid W) : ∃ a, W.var? Tryd.prog "loop.example/bellman/impl.errExNone" = some #[.iface 76 (.pointer (some a))] := by
  have h1 := h.filter (fun x => x.1 == "loop.example/bellman/impl.errExNone")
  have e : Rows.fnRulesTurnRow.laid.filter (fun x => x.1 == "loop.example/bellman/impl.errExNone") = [("loop.example/bellman/impl.errExNone", Rows.laid_loop_example_bellman_impl_errExNone)] := by kernel_rfl
  rw [e, Go.MakeChecks.laidMetH_plain _ _ _ (by kernel_rfl)] at h1
  obtain ⟨ps, ⟨g0, t0, cs0, f0, p0, q0, hg0, ht0, hv0, hd0, hq, e0⟩, hnd, hrows⟩ := h1
  obtain rfl := Option.some.inj (globErr.symm.trans hg0)
  obtain rfl := Option.some.inj (typeErr.symm.trans ht0)
  subst e0
  obtain ⟨l0⟩ := cs0
  have ok0 : ∀ u v, l0 = [.iface u v] → Value.okWide Tryd.prog W .any 0 u v := fun u v e => by
    subst e
    exact (hrows 0 0 (by simp [MemPlace.row])).2 u v (by simpa using World.var?_cell hg0 hv0 0)
  obtain ⟨a0, s0, rfl, _, _, _, _⟩ := errorString_of_trod Tryd.underlying70 rowErr Tryd.underlying76 Tryd.underlying96 rfl rfl Tryd.underlying9 cellsErr cellsStr hd0 ok0
  exact ⟨a0, hv0⟩
theorem errAt {W : World} {a : Addr} (h : W.var? Tryd.prog "loop.example/bellman/impl.errExNone" = some #[.iface 76 (.pointer (some a))]) : ErrAt W 76 (.pointer (some a)) := by
  have := World.var?_cell globErr h 0
  simpa [ErrAt] using this
theorem var_below {W W' : World} {cs : Array Value} (h : W.var? Tryd.prog "loop.example/bellman/impl.errExNone" = some cs) (hb : Below W.heap.size W W') : W'.var? Tryd.prog "loop.example/bellman/impl.errExNone" = some cs := by
  unfold World.var? at h ⊢
  simp only [globErr, Option.bind_some] at h ⊢
  have hlt : 0 < W.heap.size := by
    rcases Nat.lt_or_ge 0 W.heap.size with h' | h'
    · exact h'
    · simp [Array.getElem?_eq_none h'] at h
  rw [hb.block _ hlt]
  exact h
theorem vars_read {H : Type} (enc : TypeId × Value → H) {W : World} {a : Addr} (h0 : W.var? Tryd.prog "loop.example/bellman/impl.errExNone" = some #[.iface 76 (.pointer (some a))]) (sp : Nat → Bool) :
    DataW.TrodVars enc Tryd.prog W sp ["loop.example/bellman/impl.errExNone"] [tok enc (.iface 76 (.pointer (some a)))] [.cell 0 0] :=
  ⟨0, 70, #[.iface 76 (.pointer (some a))], 1, [], [], globErr, typeErr, h0, trod_held Tryd.underlying70 (show IsIface (.iface 76 (.pointer (some a))) from trivial) 0, rfl, rfl⟩

theorem contract (H : Type) (enc : TypeId × Value → H) (W : World) (base : Nat) (args : Array Value) (ds gs : List (DataW H)) (before : List MemPlace)
    (hval : ∀ (j : Nat) t v, Tryd.f3.params[j]? = some t → args[j]? = some v → Value.okWide Tryd.prog W .any base t v)
    (hW : DataW.Whole enc Tryd.prog Tryd.f3.params.toList Rows.fnRulesTurnSpec.vars false W args.toList ds gs before) (hL : laidMetH Tryd.prog Rows.fnRulesTurnRow.laid W) :
    Calls Tryd.prog 3 args W fun e W' => ∃ v, e = .returned v ∧ Rows.fnRulesTurnSpec.post enc Tryd.prog Tryd.f3 false true false false W args v W' := by
  have hW' := hW
  obtain ⟨p, q, hA0, hV0, rfl, hfz, hnd⟩ := hW
  have hA : DataW.TrodAll enc Tryd.prog W 0 (fun _ => true) true Tryd.f3.params.toList args.toList ds p := hA0
  have hV : DataW.TrodVars enc Tryd.prog W (fun _ => true) ["loop.example/bellman/impl.errExNone"] gs q := hV0
  rw [Tryd.params3] at hA hval
  obtain ⟨v0, vs0, d0, ds0, p0, q0, hargs, rfl, rfl, h0, r0⟩ := trodAll_cons hA
  obtain ⟨rfl, rfl, rfl⟩ := trodAll_nil r0
  obtain rfl : args = #[v0] := by cases args; simp_all
  obtain ⟨ea, hva⟩ := sentinel hL
  obtain ⟨rfl, rfl⟩ := hV.unique (vars_read enc hva _)
  have k0 := h0
  have lt0 : ∀ x ∈ p0, x.block < W.heap.size := by obtain ⟨m, hm⟩ := k0; exact DataW.trod_lt m _ _ _ hm
  obtain ⟨a0, cap0, bs0, rfl, e0⟩ := open_bytes (hval 0 22 v0 rfl rfl) h0
  clear hA0 hV0
  refine (walk a0 cap0 bs0 W 76 (.pointer (some ea)) e0 (errAt hva)).mono fun e W' ⟨he, bel⟩ => ?_
  subst he
  exact ⟨_, rfl, _, _, _, [], _, [.cell 0 0], hW', trodAll_mk1 (shut_bool Tryd.underlying4 _), (trodAll_cons_mk (Below.trod laidOut (by kernel_rfl) (of_decide_eq_true (by kernel_rfl)) k0 bel lt0) trodAll_mk0), vars_read enc (var_below hva bel) _, bel.frame _, fun h => by cases h⟩

noncomputable def low : Nat := (World.holding Tryd.prog default ⟨#[], #[], []⟩).heap.size
theorem laid_met (os : Os) : laidMet Tryd.prog Rows.fnRulesTurnRow.laid (({ World.holding Tryd.prog os ⟨#[.cells #[.string { data := #[110, 111, 116, 104, 105, 110, 103, 32, 116, 104, 97, 116, 32, 105, 115, 32, 108, 111, 111, 107, 101, 100, 32, 102, 111, 114] }] 96], #[], []⟩ with heap := ((World.holding Tryd.prog os ⟨#[.cells #[.string { data := #[110, 111, 116, 104, 105, 110, 103, 32, 116, 104, 97, 116, 32, 105, 115, 32, 108, 111, 111, 107, 101, 100, 32, 102, 111, 114] }] 96], #[], []⟩).heap.modify 0 fun
      | .cells _ t frozen => .cells #[.iface 76 (.pointer (some ⟨low, 0, none⟩))] t frozen
      | o => o) } : World).forCall (fun _ _ => 0) ⟨#[], #[.slice none 0 0], []⟩).memory :=
  laidMet_of_run' 8 (by kernel_rfl) (by kernel_rfl)
theorem reads (os : Os) {H : Type} (enc : TypeId × Value → H) : DataW.whole enc Tryd.prog (({ World.holding Tryd.prog os ⟨#[.cells #[.string { data := #[110, 111, 116, 104, 105, 110, 103, 32, 116, 104, 97, 116, 32, 105, 115, 32, 108, 111, 111, 107, 101, 100, 32, 102, 111, 114] }] 96], #[], []⟩ with heap := ((World.holding Tryd.prog os ⟨#[.cells #[.string { data := #[110, 111, 116, 104, 105, 110, 103, 32, 116, 104, 97, 116, 32, 105, 115, 32, 108, 111, 111, 107, 101, 100, 32, 102, 111, 114] }] 96], #[], []⟩).heap.modify 0 fun
      | .cells _ t frozen => .cells #[.iface 76 (.pointer (some ⟨low, 0, none⟩))] t frozen
      | o => o) } : World).forCall (fun _ _ => 0) ⟨#[], #[.slice none 0 0], []⟩).memory Tryd.f3.params.toList Rows.fnRulesTurnSpec.vars false (#[.slice none 0 0] : Array Value).toList 8 = some ([.nil], [tok enc (.iface 76 (.pointer (some ⟨low, 0, none⟩)))], [.cell 0 0]) := by kernel_rfl

set_option maxRecDepth 100000 in
theorem lifted (os : Os) (started : os.Started) (H : Type) (enc : TypeId × Value → H) (F : Stop.Interp) :
    ReturnsInHanded {} Tryd.checked os 3 .any ((OpenSpec.ofChange Rows.fnRulesTurnSpec).preRow enc Tryd.prog Tryd.f3 Rows.fnRulesTurnRow.domain false Rows.fnRulesTurnRow.laid) (((OpenSpec.ofChange Rows.fnRulesTurnSpec).at F).post enc Tryd.prog Tryd.f3 false true false false) := by
  refine returnsInHanded_of_row (C := Tryd.checked) (s := OpenSpec.ofChange Rows.fnRulesTurnSpec) own started (by kernel_rfl) Tryd.func3
    (witness_row_at (enc := enc) (C := Tryd.checked) false ({ World.holding Tryd.prog os ⟨#[.cells #[.string { data := #[110, 111, 116, 104, 105, 110, 103, 32, 116, 104, 97, 116, 32, 105, 115, 32, 108, 111, 111, 107, 101, 100, 32, 102, 111, 114] }] 96], #[], []⟩ with heap := ((World.holding Tryd.prog os ⟨#[.cells #[.string { data := #[110, 111, 116, 104, 105, 110, 103, 32, 116, 104, 97, 116, 32, 105, 115, 32, 108, 111, 111, 107, 101, 100, 32, 102, 111, 114] }] 96], #[], []⟩).heap.modify 0 fun
      | .cells _ t frozen => .cells #[.iface 76 (.pointer (some ⟨low, 0, none⟩))] t frozen
      | o => o) } : World) #[.slice none 0 0] rfl (by kernel_rfl) (by kernel_rfl) (by kernel_rfl)
      (OpenSpec.preRow_of_cond 8 (reads os enc) (by kernel_rfl) (fun k hk => by cases hk) (by kernel_rfl) (laid_met os))) ?_
  intro W base args ds gs before hval hW _ _ _ hL hSh _
  exact contract H enc W base args ds gs before hval hW hL

theorem said : Rows.FnRulesTurnSaid :=
  OpenClaim.holds_of_cond 3 Tryd.f3 rfl rfl rfl rfl rfl rfl rfl ⟨rfl, rfl, rfl, rfl, rfl⟩ rfl rfl rfl rfl rfl (by kernel_rfl) Tryd.func3 (by kernel_rfl)
    (of_decide_eq_true (by kernel_rfl)) (by unfold Func.isWrapper; first | (rw [if_pos (by decide +kernel)]; kernel_rfl) | (rw [if_neg (by decide +kernel)]; exact ⟨rfl, rfl⟩))
    (fun os started H enc _ F => by rw [OpenClaim.pre_eq_preRow]; exact lifted os started H enc F)

theorem plain (f : FuncId) (fn : Func) (hf : Tryd.pinned.checked.prog.funcNamed "loop.example/bellman/laws.FnRulesTurn" = some f) (hfn : Tryd.pinned.checked.prog.funcs[f]? = some fn) :
    false = Tryd.pinned.checked.prog.looks [] ∧ ∀ (j : Nat) t, fn.params[j]? = some t → Tryd.pinned.checked.prog.wantsStandIn t = false := by
  obtain rfl : f = 3 := Option.some.inj ((show Tryd.prog.funcNamed "loop.example/bellman/laws.FnRulesTurn" = some 3 by kernel_rfl).symm.trans hf) |>.symm
  obtain rfl : fn = Tryd.f3 := (Option.some.inj (Tryd.func3.symm.trans hfn)).symm
  refine ⟨by kernel_rfl, fun j t ht => ?_⟩
  rw [Tryd.params3] at ht
  have hm := Array.mem_of_getElem? ht
  simp only [List.mem_toArray, List.mem_cons, List.not_mem_nil, or_false] at hm
  rcases hm with rfl
  · exact (show Tryd.prog.wantsStandIn 22 = false by kernel_rfl)

theorem card : Rows.FnRulesTurnCardSaid :=
  Claim7.holds_tied_plain_at .later [] _ _ _ _ said (fun _ h => by cases h) (by kernel_rfl) (fun _ h => by cases h) fnRulesTurn_row_tie rfl ⟨rfl, rfl⟩ (by kernel_rfl) rfl plain (by kernel_rfl)
end Go.Proofs.YtcaodkkomoaphaaDoor.fnRulesTurn
namespace Go.Proofs.YtcaodkkomoaphaaDoor
theorem fnRulesTurn_holds : Rows.FnRulesTurnCardSaid := fnRulesTurn.card
#print axioms fnRulesTurn_holds
end Go.Proofs.YtcaodkkomoaphaaDoor

