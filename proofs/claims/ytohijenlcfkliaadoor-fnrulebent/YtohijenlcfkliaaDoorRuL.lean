/- Are rules right, by the specification and by the program. -/
import Derived.Test.YtohijenlcfkliaaDoorRuK
namespace Go.Proofs.YtohijenlcfkliaaDoor
open Go.ChangeShapes Go.WideShapes Go.ChangeAt Go.RowKit Go.Deep
set_option linter.unusedVariables false
set_option maxRecDepth 4000

/-- One of them has this name. -/
def hasNm (nm : ByteArray) (l : List Ru) : Bool := l.any fun y => decide (y.nm = nm)
theorem hasNm_no {nm : ByteArray} {l : List Ru} {i : Nat} (h : ∀ j (hj : j < l.length), j < i → l[j].nm ≠ nm) : hasNm nm (l.take i) = false := by
  unfold hasNm
  rw [List.any_eq_false]
  intro y hy
  obtain ⟨j, hj, rfl⟩ := List.mem_iff_getElem.1 hy
  rw [List.length_take] at hj
  rw [List.getElem_take]
  simpa using h j (by omega) (by omega)
theorem hasNm_yes {nm : ByteArray} {l : List Ru} {i j : Nat} (hj : j < l.length) (hi : j < i) (e : l[j].nm = nm) : hasNm nm (l.take i) = true := by
  unfold hasNm
  rw [List.any_eq_true]
  refine ⟨l[j], ?_, by simpa using e⟩
  rw [List.mem_iff_getElem]
  exact ⟨j, by rw [List.length_take]; omega, by rw [List.getElem_take]⟩
def okAtB (l : List Ru) (i : Nat) : Bool := match l[i]? with
  | some x => ruOkB x && !(hasNm x.nm (l.take i))
  | none => true
theorem okAtB_get {l : List Ru} {i : Nat} (h : i < l.length) : okAtB l i = (ruOkB l[i] && !(hasNm l[i].nm (l.take i))) := by
  unfold okAtB
  rw [List.getElem?_eq_getElem h]
/-- At most four, all ok, no two of one name. -/
def rulesOkB (l : List Ru) : Bool := decide (l.length ≤ 4) && (List.range l.length).all (okAtB l)
theorem rulesOk_long {l : List Ru} (h : ¬ l.length ≤ 4) : rulesOkB l = false := by
  unfold rulesOkB
  rw [decide_eq_false h, Bool.false_and]
theorem rulesOk_no {l : List Ru} {i : Nat} (h : i < l.length) (e : okAtB l i = false) : rulesOkB l = false := by
  have : (List.range l.length).all (okAtB l) = false := by
    rw [List.all_eq_false]
    exact ⟨i, List.mem_range.2 h, by simp [e]⟩
  unfold rulesOkB
  rw [this, Bool.and_false]
theorem rulesOk_yes {l : List Ru} (h : l.length ≤ 4) (e : ∀ i, i < l.length → okAtB l i = true) : rulesOkB l = true := by
  have : (List.range l.length).all (okAtB l) = true := by
    rw [List.all_eq_true]
    exact fun i hi => e i (List.mem_range.1 hi)
  unfold rulesOkB
  rw [this, decide_eq_true h]
  rfl
theorem rulesOk_len {l : List Ru} (h : rulesOkB l = true) : l.length ≤ 4 := by
  unfold rulesOkB at h
  simp only [Bool.and_eq_true, decide_eq_true_eq] at h
  exact h.1
theorem rulesOk_get {l : List Ru} (h : rulesOkB l = true) {i : Nat} (hi : i < l.length) : ruOkB l[i] = true := by
  unfold rulesOkB at h
  simp only [Bool.and_eq_true, List.all_eq_true] at h
  have := h.2 i (List.mem_range.2 hi)
  rw [okAtB_get hi] at this
  simp only [Bool.and_eq_true] at this
  exact this.1
theorem Rus.take {w : World} {a : Option Addr} {l : List Ru} (h : Rus w a l) (k : Nat) : Rus w a (l.take k) := by
  refine ⟨Nat.le_trans (List.length_take_le' _ _) h.len, fun hl => ?_⟩
  rw [List.length_take] at hl
  obtain ⟨b, off, ha, hlt, hc⟩ := h.cells (by omega)
  exact ⟨b, off, ha, hlt, fun i hi => by rw [List.length_take] at hi; rw [List.getElem_take]; exact hc i (by omega)⟩
theorem size_mem {l : List Ru} (h : rusSize l ≤ 1048576) : ∀ x ∈ l, x.ks.size ≤ 1048576 := by
  intro x hx
  obtain ⟨i, hi, rfl⟩ := List.mem_iff_getElem.1 hx
  have := rusTotal_get hi
  unfold ruSize at this
  unfold rusSize at h
  omega

set_option maxHeartbeats 4000000 in
theorem specRulesOk_any (a : Option Addr) (cap : Nat) (l : List Ru) (w : World) (h : Rus w a l) (hs : ∀ x ∈ l, x.ks.size ≤ 1048576) :
    Calls Tryd.prog 10 #[.slice a l.length cap] w fun e w' => e = .returned (.bool (rulesOkB l)) ∧ Below w.heap.size w w' := by
  have hn := h.len
  unfold maxLen at hn
  obtain ⟨G, hG⟩ : ∃ G, rulesOkB l = G := ⟨_, rfl⟩
  rw [hG]
  have HG : Hid (rulesOkB l = G) := hG
  clear hG
  by_cases hl : l.length ≤ 4
  case neg =>
    have hf : Hid (rulesOkB l = false) := rulesOk_long hl
    have hl' : (4 : Int) < l.length := by omega
    go_enter Tryd.func10, Tryd.ntmps10
    go_wp2
    go_ret
    exact ⟨ret_bool (by rw [← HG.out, hf.out]), Below.refl _ _⟩
  have hl' : ¬ ((4 : Int) < l.length) := by omega
  have Hl : Hid (l.length ≤ 4) := hl
  clear hl
  go_enter Tryd.func10, Tryd.ntmps10
  go_wp2
  clear hl'
  go_loopw [3] (fun i wr => ∃ k : Nat, k ≤ l.length ∧ i = .int .i64 k ∧ Hid (∀ j, j < k → okAtB l j = true) ∧ Below w.heap.size w wr) (fun i _ => l.length - (intOf i).toNat)
  case atStart => exact ⟨0, Nat.zero_le _, rfl, (by intro j hj; omega : ∀ j, j < 0 → okAtB l j = true), Below.refl _ _⟩
  case round =>
    revert hrel
    generalize wr = wo
    intro hrel
    obtain ⟨i, hi, rfl, hr, hb⟩ := hrel
    by_cases hlt : i < l.length
    · obtain ⟨b, off, rfl, hbl, hc⟩ := (h.below hb).cells (by omega)
      obtain ⟨p, pc, ht, hin⟩ := hc i hlt
      have hst : Hid (okAtB l i = _) := okAtB_get hlt
      have hsx := hs l[i] (List.getElem_mem hlt)
      obtain ⟨x, hx⟩ : ∃ x, l[i] = x := ⟨_, rfl⟩
      rw [hx] at ht hin hst hsx
      clear hc
      have Hx : Hid (l[i] = x) := hx
      clear hx
      obtain ⟨q0, q1, q2, q3, q4, q5, q6, q7, q8, q9, q10, q11⟩ := ht
      go_wp2_with fail
      refine (specRuleOk_any x p pc _ hin hsx).mono ?_
      rintro e w1 ⟨rfl, hb1⟩
      have be := hb.trans (hb1.mono hb.size)
      clear q0 q1 q2 q3 q4 q5 q6 q7 q8 q9 q10 q11
      cases hev : ruOkB x
      · have hf : Hid (rulesOkB l = false) := rulesOk_no hlt (by rw [hst.out, hev]; rfl)
        clear hev
        go_wp2
        go_ret
        exact ⟨ret_bool (by rw [← HG.out, hf.out]), be⟩
      · have Hev : Hid (ruOkB x = true) := hev
        clear hev
        go_wp2
        go_loopw [4] (fun j wr => ∃ k : Nat, k ≤ i ∧ j = .int .i64 k ∧ Hid (∀ q (hq : q < l.length), q < k → l[q].nm ≠ x.nm) ∧ Below w.heap.size w wr) (fun j _ => i - (intOf j).toNat)
        case atStart => exact ⟨0, Nat.zero_le _, rfl, (by intro q hq hj; omega : ∀ q (hq : q < l.length), q < 0 → l[q].nm ≠ x.nm), be⟩
        case round =>
          obtain ⟨k, hk, rfl, hr2, hb2⟩ := hrel
          by_cases hki : k < i
          · obtain ⟨_, _, e2, hbl2, hc2⟩ := (h.below hb2).cells (by omega)
            cases e2
            obtain ⟨p1, c1, ht1, _⟩ := hc2 k (by omega)
            obtain ⟨p2, c2, ht2, _⟩ := hc2 i hlt
            rw [Hx.out] at ht2
            have g0 := ht1.1
            have g1 := ht2.1
            clear hc2 ht1 ht2
            have hkl : k < l.length := by omega
            obtain ⟨y, hy⟩ : ∃ y, l[k] = y := ⟨_, rfl⟩
            rw [hy] at g0
            have Hy : Hid (l[k] = y) := hy
            clear hy
            by_cases hnm : y.nm = x.nm
            · have hq := nm_yes hnm
              have hf : Hid (rulesOkB l = false) := rulesOk_no hlt (by rw [hst.out, hasNm_yes hkl hki (by rw [Hy.out, hnm]), Bool.not_true, Bool.and_false])
              clear hnm
              go_wp2
              go_quiet (fail)
              have hbe : Below w.heap.size w (wr.drewN nq) := hb2.trans ⟨rfl, rfl, rfl, Nat.le_refl _, fun _ _ => rfl⟩
              go_wp2
              go_ret
              exact ⟨ret_bool (by rw [← HG.out, hf.out]), hbe⟩
            · have hq := nm_no hnm
              have Hn : Hid (y.nm ≠ x.nm) := hnm
              clear hnm
              go_wp2
              go_quiet (fail)
              have hbe : Below w.heap.size w (wr.drewN nq) := hb2.trans ⟨rfl, rfl, rfl, Nat.le_refl _, fun _ _ => rfl⟩
              go_wp2
              refine ⟨⟨k + 1, by omega, by go_num, ?_, hbe⟩, by simp [intOf]; omega⟩
              intro q hq1 hq2
              by_cases e : q = k
              · subst e; rw [Hy.out]; exact Hn.out
              · exact hr2.out q hq1 (by omega)
          · have hf : Hid (okAtB l i = true) := by
              show _ = _
              rw [hst.out, Hev.out, hasNm_no (fun j hj hji => hr2.out j hj (by omega))]; rfl
            go_wp2
            refine ⟨⟨i + 1, by omega, by go_num, ?_, hb2⟩, by simp [intOf]; omega⟩
            intro j hj
            by_cases e : j = i
            · subst e; exact hf.out
            · exact hr.out j (by omega)
    · have hf : Hid (rulesOkB l = true) := rulesOk_yes Hl.out (fun j hj => hr.out j (by omega))
      go_wp2
      go_ret
      exact ⟨ret_bool (by rw [← HG.out, hf.out]), hb⟩

/-- A place from 0 on just if there is one. -/
def IdxR (b : Bool) (w : World) (e : Ending) (w' : World) : Prop := ∃ r : Int, e = .returned (.int .i64 r) ∧ (0 ≤ r ↔ b = true) ∧ Below w.heap.size w w'
theorem hasNm_step {nm : ByteArray} {l : List Ru} {k : Nat} (h : k < l.length) : hasNm nm (l.drop k) = (decide (l[k].nm = nm) || hasNm nm (l.drop (k + 1))) := by
  rw [List.drop_eq_getElem_cons h]; rfl
theorem hasNm_end {nm : ByteArray} {l : List Ru} {k : Nat} (h : ¬ k < l.length) : hasNm nm (l.drop k) = false := by
  rw [List.drop_eq_nil_of_le (by omega)]; rfl

set_option maxHeartbeats 400000 in
theorem isNamed_any (P : Nat) (nm : ByteArray) (y : Ru) (a : Option Addr) (c : Nat) (w : World) (hP : w.cell? ⟨P, 0, none⟩ = some (.string nm)) :
    Calls Tryd.prog 23 #[ruV y a c, .pointer (some ⟨P, 0, none⟩)] w fun e w' => e = .returned (.bool (decide (y.nm = nm))) ∧ Below w.heap.size w w' := by
  have hl := block_lt hP
  have b0 := xBelow_new w (.cells (ruC y a c) 36)
  have hP1 := (b0.cell (p := ⟨P, 0, none⟩) hl).trans hP
  have hX := bx_new w (ruC y a c) 36
  obtain ⟨w0, hw0⟩ : ∃ w0, w.alloc (.cells (ruC y a c) 36) = w0 := ⟨_, rfl⟩
  rw [hw0] at b0 hP1 hX
  have x0 := hX.twelve.1
  unfold ruV
  unfold ruC at hw0 ⊢
  by_cases he : y.nm = nm
  · have hq := nm_yes he
    have hd : Hid (decide (y.nm = nm) = true) := decide_eq_true he
    clear he
    go_enter Tryd.func23, Tryd.ntmps23
    go_wp2
    go_ret
    exact ⟨ret_bool hd.out.symm, b0⟩
  · have hq := nm_no he
    have hd : Hid (decide (y.nm = nm) = false) := decide_eq_false he
    clear he
    go_enter Tryd.func23, Tryd.ntmps23
    go_wp2
    go_ret
    exact ⟨ret_bool hd.out.symm, b0⟩

set_option maxHeartbeats 1000000 in
theorem idxNamed_any (P : Nat) (nm : ByteArray) (a : Option Addr) (n cap : Nat) (l : List Ru) (w : World) (hP : w.cell? ⟨P, 0, none⟩ = some (.string nm)) (h : Rus w a l) (hnl : n = l.length) :
    Calls Tryd.prog 45 #[.slice a n cap, .func (.func 23) #[] #[.pointer (some ⟨P, 0, none⟩)]] w (IdxR (hasNm nm l) w) := by
  subst hnl
  have hn := h.len
  have hPl := block_lt hP
  unfold maxLen at hn
  have hf : Hid (hasNm nm l = hasNm nm (l.drop 0)) := by show _ = _; simp
  go_enter Tryd.func45, Tryd.ntmps45
  go_wp2
  go_loopw [5, 8] (fun j i wr => ∃ k : Nat, k ≤ l.length ∧ i = .int .i64 k ∧ Hid (hasNm nm l = hasNm nm (l.drop k)) ∧ Below w.heap.size w wr) (fun _ i _ => l.length - (intOf i).toNat)
  case atStart => exact ⟨0, Nat.zero_le _, rfl, hf, Below.refl _ _⟩
  case round =>
    obtain ⟨k, hk, rfl, hr, hb⟩ := hrel
    have hPr := (hb.cell (p := ⟨P, 0, none⟩) hPl).trans hP
    by_cases hlt : k < l.length
    · obtain ⟨b, off, p, cp, rfl, hbl, ht, hids⟩ := (h.below hb).at hlt
      have hst : Hid (hasNm nm (l.drop k) = _) := hasNm_step hlt
      generalize l[k] = o at ht hids hst
      obtain ⟨q0, q1, q2, q3, q4, q5, q6, q7, q8, q9, q10, q11⟩ := ht
      have hcall := fun v hv => isNamed_any P nm o p cp v hv
      unfold ruV ruC at hcall
      cases hev : decide (o.nm = nm)
      · go_wp2_with fail
        refine (hcall _ hPr).mono ?_
        rintro e w1 ⟨rfl, hb1⟩
        rw [hev]
        go_wp2
        exact ⟨⟨k + 1, by omega, by go_num, by show _ = _; rw [hr.out, hst.out, hev]; rfl, hb.trans (hb1.mono hb.size)⟩, by simp [intOf]; omega⟩
      · go_wp2_with fail
        refine (hcall _ hPr).mono ?_
        rintro e w1 ⟨rfl, hb1⟩
        rw [hev]
        go_wp2
        go_ret
        exact ⟨k, rfl, by rw [hr.out, hst.out, hev]; simp, hb.trans (hb1.mono hb.size)⟩
    · go_wp2
      go_ret
      exact ⟨-1, rfl, by rw [hr.out, hasNm_end hlt]; simp, hb⟩

set_option maxHeartbeats 400000 in
theorem hasNamed_any (P : Nat) (nm : ByteArray) (a : Option Addr) (n cap : Nat) (l : List Ru) (w : World) (hP : w.cell? ⟨P, 0, none⟩ = some (.string nm)) (h : Rus w a l) (hnl : n = l.length) :
    Calls Tryd.prog 24 #[.slice a n cap, .func (.func 23) #[] #[.pointer (some ⟨P, 0, none⟩)]] w fun e w' => e = .returned (.bool (hasNm nm l)) ∧ Below w.heap.size w w' := by
  obtain ⟨G, hG⟩ : ∃ G, hasNm nm l = G := ⟨_, rfl⟩
  have hc := idxNamed_any P nm a n cap l w hP h hnl
  rw [hG] at hc ⊢
  clear hG hnl
  cases G
  all_goals
    go_enter Tryd.func24, Tryd.ntmps24
    go_wp2_with fail
    refine hc.mono ?_
    rintro e w1 ⟨r, rfl, hr, hb1⟩
    simp at hr
    go_wp2
    go_ret
    exact ⟨ret_bool (by first | (simp; done) | (simp; omega)), hb1⟩

set_option maxHeartbeats 4000000 in
theorem implRulesOk_any (a : Option Addr) (cap : Nat) (l : List Ru) (w : World) (t : TypeId) (v : Value) (hE : ErrAt w t v) (h : Rus w a l) (hcap : l.length ≤ cap) (hcm : cap ≤ 9223372036854775807) :
    Calls Tryd.prog 9 #[.slice a l.length cap] w fun e w' => e = .returned (.bool (rulesOkB l)) ∧ Below w.heap.size w w' := by
  have hn := h.len
  unfold maxLen at hn
  obtain ⟨G, hG⟩ : ∃ G, rulesOkB l = G := ⟨_, rfl⟩
  rw [hG]
  have HG : Hid (rulesOkB l = G) := hG
  clear hG
  by_cases hl : l.length ≤ 4
  case neg =>
    have hf : Hid (rulesOkB l = false) := rulesOk_long hl
    have hl' : (4 : Int) < l.length := by omega
    go_enter Tryd.func9, Tryd.ntmps9
    go_wp2
    go_ret
    exact ⟨ret_bool (by rw [← HG.out, hf.out]), Below.refl _ _⟩
  have hl' : ¬ ((4 : Int) < l.length) := by omega
  have Hl : Hid (l.length ≤ 4) := hl
  clear hl
  go_enter Tryd.func9, Tryd.ntmps9
  go_wp2
  clear hl'
  go_loopw [11] (fun i wr => ∃ k : Nat, k ≤ l.length ∧ i = .int .i64 k ∧ Hid (∀ j, j < k → okAtB l j = true) ∧ Below w.heap.size w wr) (fun i _ => l.length - (intOf i).toNat)
  case atStart => exact ⟨0, Nat.zero_le _, rfl, (by intro j hj; omega : ∀ j, j < 0 → okAtB l j = true), Below.refl _ _⟩
  case round =>
    obtain ⟨i, hi, rfl, hr, hb⟩ := hrel
    by_cases hlt : i < l.length
    · have hz := h.below hb
      obtain ⟨b, off, rfl, hbl, hc⟩ := hz.cells (by omega)
      obtain ⟨p, pc, ht, hin⟩ := hc i hlt
      have hst : Hid (okAtB l i = _) := okAtB_get hlt
      obtain ⟨x, hx⟩ : ∃ x, l[i] = x := ⟨_, rfl⟩
      rw [hx] at ht hin hst
      clear hc hx
      have hic : i ≤ cap := by omega
      have hil : Hid (i = (l.take i).length) := by show _ = _; rw [List.length_take]; omega
      have b1 := xBelow_new wr (.cells (ruC x p pc) 36)
      have hP1 := bx_new wr (ruC x p pc) 36
      have hin1 := hin.below b1
      have be1 := hb.trans (b1.mono hb.size)
      have hE1 := hE.below be1
      have hz1 := (hz.below b1).take i
      obtain ⟨q0, q1, q2, q3, q4, q5, q6, q7, q8, q9, q10, q11⟩ := ht
      obtain ⟨u, hu⟩ : ∃ u, wr.alloc (.cells (ruC x p pc) 36) = u := ⟨_, rfl⟩
      rw [hu] at b1 hP1 hin1 be1 hE1 hz1
      unfold ruC at hu
      obtain ⟨s0, s1, s2, s3, s4, s5, s6, s7, s8, s9, s10, s11⟩ := hP1.twelve
      simp only [Nat.zero_add] at s0 s1 s2 s3 s4 s5 s6 s7 s8 s9 s10 s11
      obtain ⟨P, hPe⟩ : ∃ P, wr.heap.size = P := ⟨_, rfl⟩
      rw [hPe] at hP1 s0 s1 s2 s3 s4 s5 s6 s7 s8 s9 s10 s11
      go_wp2_with fail
      refine (implRuleOk_any x p pc _ t v hE1 hin1).mono ?_
      rintro e w1 ⟨rfl, hb1⟩
      have be2 := be1.trans (hb1.mono be1.size)
      have hP2 := (hP1.below hb1).twelve.1
      have hz2 := hz1.below hb1
      clear q0 q1 q2 q3 q4 q5 q6 q7 q8 q9 q10 q11 s0 s1 s2 s3 s4 s5 s6 s7 s8 s9 s10 s11 hu
      cases hev : ruOkB x
      · have hf : Hid (rulesOkB l = false) := rulesOk_no hlt (by rw [hst.out, hev]; rfl)
        clear hev
        go_wp2
        go_ret
        exact ⟨ret_bool (by rw [← HG.out, hf.out]), be2⟩
      · have Hev : Hid (ruOkB x = true) := hev
        clear hev
        go_wp2_with fail
        refine (hasNamed_any P x.nm (some ⟨b, off, none⟩) i cap (l.take i) _ hP2 hz2 hil.out).mono ?_
        rintro e w2 ⟨rfl, hb2⟩
        have be3 := be2.trans (hb2.mono be2.size)
        cases hev : hasNm x.nm (l.take i)
        · have hf : Hid (okAtB l i = true) := by
            show _ = _
            rw [hst.out, Hev.out, hev]; rfl
          clear hev
          go_wp2
          refine ⟨⟨i + 1, by omega, by go_num, ?_, be3⟩, by simp [intOf]; omega⟩
          intro j hj
          by_cases e : j = i
          · subst e; exact hf.out
          · exact hr.out j (by omega)
        · have hf : Hid (rulesOkB l = false) := rulesOk_no hlt (by rw [hst.out, hev, Bool.not_true, Bool.and_false])
          clear hev
          go_wp2
          go_ret
          exact ⟨ret_bool (by rw [← HG.out, hf.out]), be3⟩
    · have hf : Hid (rulesOkB l = true) := rulesOk_yes Hl.out (fun j hj => hr.out j (by omega))
      go_wp2
      go_ret
      exact ⟨ret_bool (by rw [← HG.out, hf.out]), hb⟩
end Go.Proofs.YtohijenlcfkliaaDoor
