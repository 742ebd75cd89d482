/- Whatever is drawn: the program's OccsText answers as the specification's; two lists that are ok are one just if their texts are; in whatever order the places of a list that is ok come into a list, it is that list. The library's tables are as its text lays them. -/
import Derived.Test.YtjaneedmhekheaaDoorDraw8
import Derived.Test.YtjaneedmhekheaaDoorOccTx
import Derived.Test.YtjaneedmhekheaaDoorOccT2
import Derived.Test.YtjaneedmhekheaaDoorOccPut1
import Derived.Test.YtjaneedmhekheaaDoorCards
import Derived.Test.YtjaneedmhekheaaDoorTie
import Derived.Deep.DeepHandedRow
import Derived.Lib.LaidTab
namespace Go.Proofs.YtjaneedmhekheaaDoor.fnOccText
open Go.ChangeShapes Go.WideShapes Go.ChangeAt Go.RowKit
set_option linter.unusedVariables false
set_option maxRecDepth 4000
theorem text_eq {a b : ByteArray} (h : a.toList = b.toList) : a = b := by
  have h1 : (a == b) = true := by rw [beq_toListBytes, h]; simp
  have h2 : (a.data == b.data) = true := h1
  exact ByteArray.ext (eq_of_beq h2)
theorem total_le : ∀ (l : List Occ), (∀ o ∈ l, o.Wd) → idsTotal l ≤ 24 * l.length
  | [], _ => Nat.le_refl _
  | o :: r, h => by
    have h1 := (h o (by simp)).2
    have h2 := total_le r (fun x hx => h x (by simp [hx]))
    simp only [idsTotal, List.length_cons]
    omega
theorem size_le {l : List Occ} (h : ∀ o ∈ l, o.Wd) (hl : l.length ≤ 8) : occsSize l ≤ 1048576 := by
  have := total_le l h
  unfold occsSize
  omega
theorem wf_of {l : List Occ} (h : ∀ o ∈ l, o.Wd) : ∀ o ∈ l, o.Wf := fun o ho => (h o ho).1
set_option maxHeartbeats 2000000 in
theorem walk (a0 : Option Addr) (cap0 : Nat) (c0 : List Int) (w : World) (h0 : Bytes w a0 c0 ∧ c0.length ≤ cap0) (ht : Tab w) :
    Calls Tryd.prog 5 #[.slice a0 c0.length cap0] w fun e w' => e = .returned (.bool true) ∧ Below w.heap.size w w' := by
  have hm0 := h0.1.len
  unfold maxLen at hm0
  by_cases hbig : (1048576 : Int) < (c0.length : Int)
  · go_enter Tryd.func5, Tryd.ntmps5
    go_wp2
    go_ret
    exact ⟨rfl, Below.refl _ _⟩
  go_enter Tryd.func5, Tryd.ntmps5
  go_wp2_with fail
  refine (drawOccsText_any a0 cap0 c0 w h0.1 h0.2).mono ?_
  rintro e w1 ⟨aa, ca, l, rfl, hl7, hE1, hwd, hb1⟩
  have hds := drawOccsSame_any a0 cap0 c0 w1 (h0.1.below hb1) h0.2
  go_wp2_with fail
  refine hds.mono ?_
  rintro e w2 ⟨ab, ac, cb, cc, m, m', rfl, hm7, hm8, hB2, hC2, hwb, hwc, hb2⟩
  clear hds
  have hE2 := hE1.below hb2
  have b2 := hb1.trans (hb2.mono hb1.size)
  have hT2 := ht.below b2 ht.lt
  have hsl := size_le hwd (by omega)
  have hsm := size_le hwb (by omega)
  have hsm' := size_le hwc hm8
  go_wp2_with fail
  refine (implOccsText_any aa ca l w2 hE2 hsl (wf_of hwd) hT2).mono ?_
  rintro e w3 ⟨rfl, hb3⟩
  have hE3 := hE2.below hb3
  have hB3 := hB2.below hb3
  have hC3 := hC2.below hb3
  have b3 := b2.trans (hb3.mono b2.size)
  go_wp2_with fail
  refine (specOccsText_any aa ca l w3 hE3 hsl (wf_of hwd)).mono ?_
  rintro e w4 ⟨rfl, hb4⟩
  have hE4 := hE3.below hb4
  have hB4 := hB3.below hb4
  have hC4 := hC3.below hb4
  have b4 := b3.trans (hb4.mono b3.size)
  go_wp2_with fail
  refine (implOccsText_any ab cb m w4 hB4 hsm (wf_of hwb) (ht.below b4 ht.lt)).mono ?_
  rintro e w5 ⟨rfl, hb5⟩
  have hE5 := hE4.below hb5
  have hB5 := hB4.below hb5
  have hC5 := hC4.below hb5
  have b5 := b4.trans (hb5.mono b4.size)
  go_wp2_with fail
  refine (specOccsText_any ab cb m w5 hB5 hsm (wf_of hwb)).mono ?_
  rintro e w6 ⟨rfl, hb6⟩
  have hE6 := hE5.below hb6
  have hB6 := hB5.below hb6
  have hC6 := hC5.below hb6
  have b6 := b5.trans (hb6.mono b5.size)
  clear hE1 hE2 hE3 hE4 hE5 hB2 hB3 hB4 hB5 hC2 hC3 hC4 hC5 hb1 hb2 hb3 hb4 hb5 hb6 b2 b3 b4 b5 hT2
  go_wp2_with fail
  refine (specOccsOk_any aa ca l w6 hE6).mono ?_
  rintro e w7 ⟨rfl, hb7⟩
  have hE7 := hE6.below hb7
  have hB7 := hB6.below hb7
  have hC7 := hC6.below hb7
  have b7 := b6.trans (hb7.mono b6.size)
  cases hok : occsOkB l
  · go_wp2
    go_ret
    exact ⟨rfl, b7⟩
  have Hok : Hid (occsOkB l = true) := hok
  clear hok
  go_wp2_with fail
  refine (specOccsOk_any ab cb m w7 hB7).mono ?_
  rintro e w8 ⟨rfl, hb8⟩
  have hE8 := hE7.below hb8
  have hB8 := hB7.below hb8
  have hC8 := hC7.below hb8
  have b8 := b7.trans (hb8.mono b7.size)
  cases hokb : occsOkB m
  · go_wp2
    go_ret
    exact ⟨rfl, b8⟩
  have Hokb : Hid (occsOkB m = true) := hokb
  clear hokb
  go_wp2_with fail
  refine (specOccsOk_any ac cc m' w8 hC8).mono ?_
  rintro e w9 ⟨rfl, hb9⟩
  have hE9 := hE8.below hb9
  have hB9 := hB8.below hb9
  have hC9 := hC8.below hb9
  have b9 := b8.trans (hb9.mono b8.size)
  cases hokc : occsOkB m'
  · go_wp2
    go_ret
    exact ⟨rfl, b9⟩
  have Hokc : Hid (occsOkB m' = true) := hokc
  clear hokc hE6 hE7 hE8 hB6 hB7 hB8 hC6 hC7 hC8 hb7 hb8 hb9 b6 b7 b8
  obtain ⟨n, hn⟩ : ∃ n, l.length = n := ⟨_, rfl⟩
  have Hn : Hid (l.length = n) := hn
  rw [hn]
  rw [hn] at hl7
  clear hn
  go_wp2_with fail
  have hbx := below_two w9 (.cells #[] 25) (.cells #[] 25)
  go_loopw [6, 7, 8] (fun vx vy vi wr => ∃ (j : Nat) (X Y : List Occ) (ax ay : Option Addr) (cx cy : Nat), j ≤ n ∧ vi = .int .i64 j ∧ vx = .slice ax X.length cx ∧ vy = .slice ay Y.length cy ∧ Hid (X = putAll [] (l.take j)) ∧ Hid (Y = putAll [] (l.reverse.take j)) ∧ Occs wr ax X ∧ Occs wr ay Y ∧ Occs wr aa l ∧ Occs wr ab m ∧ Occs wr ac m' ∧ Below w.heap.size w wr) (fun _ _ vi _ => n - (intOf vi).toNat)
  case atStart => exact ⟨0, [], [], _, _, 0, 0, Nat.zero_le _, rfl, rfl, rfl, rfl, rfl, Occs.nil _ _, Occs.nil _ _, hE9.below hbx, hB9.below hbx, hC9.below hbx, b9.trans (hbx.mono b9.size)⟩
  case round =>
    obtain ⟨j, X, Y, ax, ay, cx, cy, hj, rfl, rfl, rfl, hX, hY, hEX, hEY, hE, hB, hC, hbr⟩ := hrel
    clear hE9 hB9 hC9 b9 hbx
    have hokX : occsOkB X = true := by
      rw [hX.out]
      exact putAll_ok (fun o ho => ok_all Hok.out o (List.mem_of_mem_take ho)) (by rw [List.length_take]; omega)
    have hokY : occsOkB Y = true := by
      rw [hY.out]
      exact putAll_ok (fun o ho => ok_all Hok.out o (List.mem_reverse.1 (List.mem_of_mem_take ho))) (by rw [List.length_take]; omega)
    have HokX : Hid (occsOkB X = true) := hokX
    have HokY : Hid (occsOkB Y = true) := hokY
    clear hokX hokY
    by_cases hjn : j < n
    · have hjn' : (j : Int) < (n : Int) := by omega
      have hlj : j < l.length := by rw [Hn.out]; exact hjn
      obtain ⟨b, off, p, cp, rfl, hbl, x0, x1, x2, hIX⟩ := hE.at hlj
      obtain ⟨n', hn'⟩ : ∃ n', n = n' + 1 := ⟨n - 1, by omega⟩
      have hn1 : (n : Int) - 1 = (n' : Int) := by omega
      obtain ⟨k, hk⟩ : ∃ k, k = n' - j := ⟨_, rfl⟩
      have hk1 : (n' : Int) - (j : Int) = (k : Int) := by omega
      have hkn : (k : Int) < (n : Int) := by omega
      have hlk : k < l.length := by rw [Hn.out]; omega
      have hw1 : IntKind.i64.wrap (n' : Int) = (n' : Int) := by rw [IntKind.wrap_i64]; omega
      have hw2 : IntKind.i64.wrap (k : Int) = (k : Int) := by rw [IntKind.wrap_i64]; omega
      have eX : putsF X l[j] = putAll [] (l.take (j + 1)) := by
        have h1 : occOkB l[j].fr l[j].tl l[j].ids = true := ok_all Hok.out l[j] (List.getElem_mem hlj)
        rw [List.take_succ_eq_append_getElem hlj, putAll_snoc, ← hX.out]
        simp [putsF, HokX.out, h1]
      have eY : putsF Y l[k] = putAll [] (l.reverse.take (j + 1)) := by
        have h1 : occOkB l[k].fr l[k].tl l[k].ids = true := ok_all Hok.out l[k] (List.getElem_mem hlk)
        have h2 : j < l.reverse.length := by rw [List.length_reverse]; exact hlj
        have h3 : l.reverse[j] = l[k] := by
          rw [List.getElem_reverse]
          congr 1
          rw [Hn.out]; omega
        rw [List.take_succ_eq_append_getElem h2, putAll_snoc, ← hY.out, h3]
        simp [putsF, HokY.out, h1]
      have HeX : Hid (putsF X l[j] = putAll [] (l.take (j + 1))) := eX
      have HeY : Hid (putsF Y l[k] = putAll [] (l.reverse.take (j + 1))) := eY
      obtain ⟨ox, hox⟩ : ∃ ox, l[j] = ox := ⟨_, rfl⟩
      obtain ⟨oy, hoy⟩ : ∃ oy, l[k] = oy := ⟨_, rfl⟩
      have Hoy : Hid (l[k] = oy) := hoy
      rw [hox] at x0 x1 x2 hIX HeX
      rw [hoy] at HeY
      have Hk : Hid (k = n' - j) := hk
      have Hn' : Hid (n = n' + 1) := hn'
      clear eX eY hox hoy hn' hk
      go_wp2_with fail
      refine (implOccsPut_any ax cx X ox p cp wr hEX hIX).mono ?_
      rintro e v1 ⟨vv, L, rfl, hL, hO, hv1⟩
      obtain ⟨a6, c6, rfl⟩ := pOwns_slice hO.row
      have hEX1 := hO.occs
      have hlL : L.length = (putAll [] (l.take (j + 1))).length := by rw [← HeX.out, ← hL, List.length_map]
      rw [hL, HeX.out] at hEX1
      have HlL : Hid (L.length = (putAll [] (l.take (j + 1))).length) := hlL
      clear hlL hL hO x0 x1 x2
      have hE1 := hE.below hv1
      have hEY1 := hEY.below hv1
      have bb1 := hbr.trans (hv1.mono hbr.size)
      obtain ⟨b', off', p', cp', eb, _, y0, y1, y2, hIY⟩ := hE1.at hlk
      cases eb
      rw [Hoy.out] at y0 y1 y2 hIY
      go_wp2_with fail
      refine (implOccsPut_any ay cy Y oy p' cp' v1 hEY1 hIY).mono ?_
      rintro e v2 ⟨vv, M, rfl, hM, hP, hv2⟩
      obtain ⟨a7, c7, rfl⟩ := pOwns_slice hP.row
      have hEY2 := hP.occs
      have hlM : M.length = (putAll [] (l.reverse.take (j + 1))).length := by rw [← HeY.out, ← hM, List.length_map]
      rw [hM, HeY.out] at hEY2
      have HlM : Hid (M.length = (putAll [] (l.reverse.take (j + 1))).length) := hlM
      clear hlM hM hP y0 y1 y2
      have hv12 := hv1.trans (hv2.mono hv1.size)
      go_wp2
      exact ⟨⟨j + 1, putAll [] (l.take (j + 1)), putAll [] (l.reverse.take (j + 1)), a6, a7, c6, c7, by omega, by go_num, by rw [HlL.out], by rw [HlM.out], rfl, rfl, hEX1.below hv2, hEY2, hE.below hv12, hB.below hv12, hC.below hv12, bb1.trans (hv2.mono bb1.size)⟩, by simp [intOf]; omega⟩
    · have hXl : X = l := by
        rw [hX.out, List.take_of_length_le (by rw [Hn.out]; omega)]
        exact putAll_same Hok.out (fun o => Iff.rfl)
      have hYl : Y = l := by
        rw [hY.out, List.take_of_length_le (by rw [List.length_reverse, Hn.out]; omega)]
        exact putAll_same Hok.out (fun o => List.mem_reverse)
      have hXn : X.length = n := by rw [hXl, Hn.out]
      have hYn : Y.length = n := by rw [hYl, Hn.out]
      rw [hXl] at hEX
      rw [hYl] at hEY
      rw [hXn, hYn]
      clear hX hY hXl hYl hXn hYn HokX HokY
      have hself := occsEqB_self l
      have h1 := implOccsSame_any ax aa cx ca l l wr hEX hE
      rw [hself, Hn.out] at h1
      have h2 := fun v (hv : Below wr.heap.size wr v) => implOccsSame_any ay aa cy ca l l v (hEY.below hv) (hE.below hv)
      rw [hself, Hn.out] at h2
      have hle : ¬ ((j : Int) < (n : Int)) := by omega
      clear hself
      go_wp2_with fail
      refine h1.mono ?_
      rintro e v1 ⟨rfl, k1⟩
      go_wp2_with fail
      refine (h2 v1 k1).mono ?_
      rintro e v2 ⟨rfl, k2'⟩
      have k2 := k1.trans (k2'.mono k1.size)
      go_wp2_with fail
      refine (implOccsSame_any ab ac cb cc m m' v2 (hB.below k2) (hC.below k2)).mono ?_
      rintro e v3 ⟨rfl, k3'⟩
      have k3 := k2.trans (k3'.mono k2.size)
      have hT3 := ht.below (hbr.trans (k3.mono hbr.size)) ht.lt
      go_wp2_with fail
      refine (implOccsText_any ab cb m v3 (hB.below k3) hsm (wf_of hwb) hT3).mono ?_
      rintro e v4 ⟨rfl, k4'⟩
      have k4 := k3.trans (k4'.mono k3.size)
      have hT4 := ht.below (hbr.trans (k4.mono hbr.size)) ht.lt
      go_wp2_with fail
      refine (implOccsText_any ac cc m' v4 (hC.below k4) hsm' (wf_of hwc) hT4).mono ?_
      rintro e v5 ⟨rfl, k5'⟩
      have k5 := k4.trans (k5'.mono k4.size)
      have b5 := hbr.trans (k5.mono hbr.size)
      by_cases hmm : m = m'
      · subst hmm
        rw [occsEqB_self m]
        go_wp2
        go_ret
        exact ⟨rfl, b5⟩
      · have hq : occsEqB m m' = false := by
          rw [Bool.eq_false_iff]
          exact fun h => hmm ((occsEqB_iff m m').1 h)
        have hne : (⟨(occsText m).toArray⟩ : ByteArray) ≠ ⟨(occsText m').toArray⟩ := fun h => hmm (occsText_inj (ok_all Hokb.out) (ok_all Hokc.out) (by
          have := congrArg (fun b : ByteArray => b.data.toList) h
          simpa using this))
        rw [hq]
        generalize (⟨(occsText m).toArray⟩ : ByteArray) = S at *
        generalize (⟨(occsText m').toArray⟩ : ByteArray) = S' at *
        have hne' : (S.toList == S'.toList) = false := by
          rw [Bool.eq_false_iff]
          exact fun h => hne (text_eq (eq_of_beq h))
        go_wp2
        go_ret
        exact ⟨rfl, b5⟩

theorem gTabType : (Tryd.prog.globals[1]?).map (·.type) = some 99 := by kernel_rfl
theorem cellsTab : Tryd.prog.cellsOf 99 = 20 := by kernel_rfl
theorem cellsWord : Tryd.prog.cellsOf 93 = 1 := by kernel_rfl
theorem table {W : World} (h : laidMetH Tryd.prog Rows.fnOccTextRow.laid W) : Lib.TabIs Tryd.prog W "internal/strconv.uint64pow10" .u64 Lib.pow10Tab := by
  have h1 := h.filter (fun x => x.1 == "internal/strconv.uint64pow10")
  have e : Rows.fnOccTextRow.laid.filter (fun x => x.1 == "internal/strconv.uint64pow10") = [("internal/strconv.uint64pow10", Lib.tabData .u64 Lib.pow10Tab)] := by kernel_rfl
  rw [e] at h1
  exact Lib.tabIs_of_head (rest := []) glob gTabType Tryd.underlying99 Tryd.underlying93 cellsWord cellsTab h1

theorem contract (H : Type) (enc : TypeId × Value → H) (W : World) (base : Nat) (args : Array Value) (ds gs : List (DataW H)) (before : List MemPlace)
    (hval : ∀ (j : Nat) t v, Tryd.f5.params[j]? = some t → args[j]? = some v → Value.okWide Tryd.prog W .any base t v)
    (hW : DataW.Whole enc Tryd.prog Tryd.f5.params.toList Rows.fnOccTextSpec.vars false W args.toList ds gs before) (hL : laidMetH Tryd.prog Rows.fnOccTextRow.laid W) :
    Calls Tryd.prog 5 args W fun e W' => ∃ v, e = .returned v ∧ Rows.fnOccTextSpec.post enc Tryd.prog Tryd.f5 false true false false W args v W' := by
  have hW' := hW
  obtain ⟨p, q, hA0, hV, rfl, hfz, hnd⟩ := hW
  have hA : DataW.TrodAll enc Tryd.prog W 0 (fun _ => true) true Tryd.f5.params.toList args.toList ds p := hA0
  rw [Tryd.params5] at hA hval
  obtain ⟨v0, vs0, d0, ds0, p0, q0, hargs, rfl, rfl, h0, r0⟩ := trodAll_cons hA
  obtain ⟨rfl, rfl, rfl⟩ := trodAll_nil r0
  obtain rfl : args = #[v0] := by cases args; simp_all
  obtain ⟨rfl, rfl⟩ := trodVars_none hV
  have k0 := h0
  have lt0 : ∀ x ∈ p0, x.block < W.heap.size := by obtain ⟨m, hm⟩ := k0; exact DataW.trod_lt m _ _ _ hm
  obtain ⟨a0, cap0, bs0, rfl, e0⟩ := open_bytes (hval 0 22 v0 rfl rfl) h0
  clear hA0
  refine (walk a0 cap0 bs0 W e0 (table hL)).mono fun e W' ⟨he, bel⟩ => ?_
  subst he
  exact ⟨_, rfl, _, _, _, [], _, [], hW', trodAll_mk1 (shut_bool Tryd.underlying4 _), (trodAll_cons_mk (Below.trod laidOut (by kernel_rfl) (of_decide_eq_true (by kernel_rfl)) k0 bel lt0) trodAll_mk0), rfl, bel.frame _, fun h => by cases h⟩

theorem laid_met (os : Os) : laidMet Tryd.prog Rows.fnOccTextRow.laid (({ World.holding Tryd.prog os ⟨#[], #[], []⟩ with heap := ((((World.holding Tryd.prog os ⟨#[], #[], []⟩).heap.modify 0 fun
      | .cells _ t frozen => .cells #[.int .u8 0, .int .u8 1, .int .u8 28, .int .u8 2, .int .u8 29, .int .u8 14, .int .u8 24, .int .u8 3, .int .u8 30, .int .u8 22, .int .u8 20, .int .u8 15, .int .u8 25, .int .u8 17, .int .u8 4, .int .u8 8, .int .u8 31, .int .u8 27, .int .u8 13, .int .u8 23, .int .u8 21, .int .u8 19, .int .u8 16, .int .u8 7, .int .u8 26, .int .u8 12, .int .u8 18, .int .u8 6, .int .u8 11, .int .u8 5, .int .u8 10, .int .u8 9] t frozen
      | o => o).modify 2 fun
      | .cells _ t frozen => .cells #[.int .u8 0, .int .u8 1, .int .u8 56, .int .u8 2, .int .u8 57, .int .u8 49, .int .u8 28, .int .u8 3, .int .u8 61, .int .u8 58, .int .u8 42, .int .u8 50, .int .u8 38, .int .u8 29, .int .u8 17, .int .u8 4, .int .u8 62, .int .u8 47, .int .u8 59, .int .u8 36, .int .u8 45, .int .u8 43, .int .u8 51, .int .u8 22, .int .u8 53, .int .u8 39, .int .u8 33, .int .u8 30, .int .u8 24, .int .u8 18, .int .u8 12, .int .u8 5, .int .u8 63, .int .u8 55, .int .u8 48, .int .u8 27, .int .u8 60, .int .u8 41, .int .u8 37, .int .u8 16, .int .u8 46, .int .u8 35, .int .u8 44, .int .u8 21, .int .u8 52, .int .u8 32, .int .u8 23, .int .u8 11, .int .u8 54, .int .u8 26, .int .u8 40, .int .u8 15, .int .u8 34, .int .u8 20, .int .u8 31, .int .u8 10, .int .u8 25, .int .u8 14, .int .u8 19, .int .u8 9, .int .u8 13, .int .u8 8, .int .u8 7, .int .u8 6] t frozen
      | o => o).modify 1 fun
      | .cells _ t frozen => .cells #[.int .u64 1, .int .u64 10, .int .u64 100, .int .u64 1000, .int .u64 10000, .int .u64 100000, .int .u64 1000000, .int .u64 10000000, .int .u64 100000000, .int .u64 1000000000, .int .u64 10000000000, .int .u64 100000000000, .int .u64 1000000000000, .int .u64 10000000000000, .int .u64 100000000000000, .int .u64 1000000000000000, .int .u64 10000000000000000, .int .u64 100000000000000000, .int .u64 1000000000000000000, .int .u64 10000000000000000000] t frozen
      | o => o) } : World).forCall (fun _ _ => 0) ⟨#[], #[.slice none 0 0], []⟩).memory :=
  laidMet_of_run' 8 (by kernel_rfl) (by kernel_rfl)
theorem reads (os : Os) {H : Type} (enc : TypeId × Value → H) : ∃ places, DataW.whole enc Tryd.prog (({ World.holding Tryd.prog os ⟨#[], #[], []⟩ with heap := ((((World.holding Tryd.prog os ⟨#[], #[], []⟩).heap.modify 0 fun
      | .cells _ t frozen => .cells #[.int .u8 0, .int .u8 1, .int .u8 28, .int .u8 2, .int .u8 29, .int .u8 14, .int .u8 24, .int .u8 3, .int .u8 30, .int .u8 22, .int .u8 20, .int .u8 15, .int .u8 25, .int .u8 17, .int .u8 4, .int .u8 8, .int .u8 31, .int .u8 27, .int .u8 13, .int .u8 23, .int .u8 21, .int .u8 19, .int .u8 16, .int .u8 7, .int .u8 26, .int .u8 12, .int .u8 18, .int .u8 6, .int .u8 11, .int .u8 5, .int .u8 10, .int .u8 9] t frozen
      | o => o).modify 2 fun
      | .cells _ t frozen => .cells #[.int .u8 0, .int .u8 1, .int .u8 56, .int .u8 2, .int .u8 57, .int .u8 49, .int .u8 28, .int .u8 3, .int .u8 61, .int .u8 58, .int .u8 42, .int .u8 50, .int .u8 38, .int .u8 29, .int .u8 17, .int .u8 4, .int .u8 62, .int .u8 47, .int .u8 59, .int .u8 36, .int .u8 45, .int .u8 43, .int .u8 51, .int .u8 22, .int .u8 53, .int .u8 39, .int .u8 33, .int .u8 30, .int .u8 24, .int .u8 18, .int .u8 12, .int .u8 5, .int .u8 63, .int .u8 55, .int .u8 48, .int .u8 27, .int .u8 60, .int .u8 41, .int .u8 37, .int .u8 16, .int .u8 46, .int .u8 35, .int .u8 44, .int .u8 21, .int .u8 52, .int .u8 32, .int .u8 23, .int .u8 11, .int .u8 54, .int .u8 26, .int .u8 40, .int .u8 15, .int .u8 34, .int .u8 20, .int .u8 31, .int .u8 10, .int .u8 25, .int .u8 14, .int .u8 19, .int .u8 9, .int .u8 13, .int .u8 8, .int .u8 7, .int .u8 6] t frozen
      | o => o).modify 1 fun
      | .cells _ t frozen => .cells #[.int .u64 1, .int .u64 10, .int .u64 100, .int .u64 1000, .int .u64 10000, .int .u64 100000, .int .u64 1000000, .int .u64 10000000, .int .u64 100000000, .int .u64 1000000000, .int .u64 10000000000, .int .u64 100000000000, .int .u64 1000000000000, .int .u64 10000000000000, .int .u64 100000000000000, .int .u64 1000000000000000, .int .u64 10000000000000000, .int .u64 100000000000000000, .int .u64 1000000000000000000, .int .u64 10000000000000000000] t frozen
      | o => o) } : World).forCall (fun _ _ => 0) ⟨#[], #[.slice none 0 0], []⟩).memory Tryd.f5.params.toList Rows.fnOccTextSpec.vars false (#[.slice none 0 0] : Array Value).toList 8 = some ([.nil], [], places) :=
  ⟨[], by kernel_rfl⟩

set_option maxRecDepth 100000 in
theorem lifted (os : Os) (started : os.Started) (H : Type) (enc : TypeId × Value → H) (F : Stop.Interp) :
    ReturnsInHanded {} Tryd.checked os 5 .any ((OpenSpec.ofChange Rows.fnOccTextSpec).preRow enc Tryd.prog Tryd.f5 Rows.fnOccTextRow.domain false Rows.fnOccTextRow.laid) (((OpenSpec.ofChange Rows.fnOccTextSpec).at F).post enc Tryd.prog Tryd.f5 false true false false) := by
  obtain ⟨places, hx⟩ := reads os enc
  refine returnsInHanded_of_row (C := Tryd.checked) (s := OpenSpec.ofChange Rows.fnOccTextSpec) own started (by kernel_rfl) Tryd.func5
    (witness_row_at (enc := enc) (C := Tryd.checked) false ({ World.holding Tryd.prog os ⟨#[], #[], []⟩ with heap := ((((World.holding Tryd.prog os ⟨#[], #[], []⟩).heap.modify 0 fun
      | .cells _ t frozen => .cells #[.int .u8 0, .int .u8 1, .int .u8 28, .int .u8 2, .int .u8 29, .int .u8 14, .int .u8 24, .int .u8 3, .int .u8 30, .int .u8 22, .int .u8 20, .int .u8 15, .int .u8 25, .int .u8 17, .int .u8 4, .int .u8 8, .int .u8 31, .int .u8 27, .int .u8 13, .int .u8 23, .int .u8 21, .int .u8 19, .int .u8 16, .int .u8 7, .int .u8 26, .int .u8 12, .int .u8 18, .int .u8 6, .int .u8 11, .int .u8 5, .int .u8 10, .int .u8 9] t frozen
      | o => o).modify 2 fun
      | .cells _ t frozen => .cells #[.int .u8 0, .int .u8 1, .int .u8 56, .int .u8 2, .int .u8 57, .int .u8 49, .int .u8 28, .int .u8 3, .int .u8 61, .int .u8 58, .int .u8 42, .int .u8 50, .int .u8 38, .int .u8 29, .int .u8 17, .int .u8 4, .int .u8 62, .int .u8 47, .int .u8 59, .int .u8 36, .int .u8 45, .int .u8 43, .int .u8 51, .int .u8 22, .int .u8 53, .int .u8 39, .int .u8 33, .int .u8 30, .int .u8 24, .int .u8 18, .int .u8 12, .int .u8 5, .int .u8 63, .int .u8 55, .int .u8 48, .int .u8 27, .int .u8 60, .int .u8 41, .int .u8 37, .int .u8 16, .int .u8 46, .int .u8 35, .int .u8 44, .int .u8 21, .int .u8 52, .int .u8 32, .int .u8 23, .int .u8 11, .int .u8 54, .int .u8 26, .int .u8 40, .int .u8 15, .int .u8 34, .int .u8 20, .int .u8 31, .int .u8 10, .int .u8 25, .int .u8 14, .int .u8 19, .int .u8 9, .int .u8 13, .int .u8 8, .int .u8 7, .int .u8 6] t frozen
      | o => o).modify 1 fun
      | .cells _ t frozen => .cells #[.int .u64 1, .int .u64 10, .int .u64 100, .int .u64 1000, .int .u64 10000, .int .u64 100000, .int .u64 1000000, .int .u64 10000000, .int .u64 100000000, .int .u64 1000000000, .int .u64 10000000000, .int .u64 100000000000, .int .u64 1000000000000, .int .u64 10000000000000, .int .u64 100000000000000, .int .u64 1000000000000000, .int .u64 10000000000000000, .int .u64 100000000000000000, .int .u64 1000000000000000000, .int .u64 10000000000000000000] t frozen
      | o => o) } : World) #[.slice none 0 0] rfl (by kernel_rfl) (by kernel_rfl) (by kernel_rfl)
      (OpenSpec.preRow_of_cond 8 hx (by kernel_rfl) (fun k hk => by cases hk) (by kernel_rfl) (laid_met os))) ?_
  intro W base args ds gs before hval hW _ _ _ hL _ _
  exact contract H enc W base args ds gs before hval hW hL

theorem said : Rows.FnOccTextSaid :=
  OpenClaim.holds_of_cond 5 Tryd.f5 rfl rfl rfl rfl rfl rfl rfl ⟨rfl, rfl, rfl, rfl, rfl⟩ rfl rfl rfl rfl rfl (by kernel_rfl) Tryd.func5 (by kernel_rfl)
    (of_decide_eq_true (by kernel_rfl)) (by unfold Func.isWrapper; first | (rw [if_pos (by decide +kernel)]; kernel_rfl) | (rw [if_neg (by decide +kernel)]; exact ⟨rfl, rfl⟩))
    (fun os started H enc _ F => by rw [OpenClaim.pre_eq_preRow]; exact lifted os started H enc F)

theorem plain (f : FuncId) (fn : Func) (hf : Tryd.pinned.checked.prog.funcNamed "loop.example/bellman/laws.FnOccText" = some f) (hfn : Tryd.pinned.checked.prog.funcs[f]? = some fn) :
    false = Tryd.pinned.checked.prog.looks [] ∧ ∀ (j : Nat) t, fn.params[j]? = some t → Tryd.pinned.checked.prog.wantsStandIn t = false := by
  obtain rfl : f = 5 := Option.some.inj ((show Tryd.prog.funcNamed "loop.example/bellman/laws.FnOccText" = some 5 by kernel_rfl).symm.trans hf) |>.symm
  obtain rfl : fn = Tryd.f5 := (Option.some.inj (Tryd.func5.symm.trans hfn)).symm
  refine ⟨by kernel_rfl, fun j t ht => ?_⟩
  rw [Tryd.params5] at ht
  have hm := Array.mem_of_getElem? ht
  simp only [List.mem_toArray, List.mem_cons, List.not_mem_nil, or_false] at hm
  rcases hm with rfl
  · exact (show Tryd.prog.wantsStandIn 22 = false by kernel_rfl)

theorem card : Rows.FnOccTextCardSaid :=
  Claim7.holds_tied_plain_at .later [] _ _ _ _ said (fun _ h => by cases h) (by kernel_rfl) (fun _ h => by cases h) fnOccText_row_tie rfl ⟨rfl, rfl⟩ (by kernel_rfl) rfl plain (by kernel_rfl)
end Go.Proofs.YtjaneedmhekheaaDoor.fnOccText
namespace Go.Proofs.YtjaneedmhekheaaDoor
theorem fnOccText_holds : Rows.FnOccTextCardSaid := fnOccText.card
#print axioms fnOccText_holds
end Go.Proofs.YtjaneedmhekheaaDoor

