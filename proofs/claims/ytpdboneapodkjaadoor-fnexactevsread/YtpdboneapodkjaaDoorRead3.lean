/- The program's scan of a text, walked. -/
import Derived.Test.YtpdboneapodkjaaDoorRead2
namespace Go.Proofs.YtpdboneapodkjaaDoor
open Go.ChangeShapes Go.WideShapes Go.ChangeAt Go.RowKit
set_option linter.unusedVariables false

theorem info_ev_parts : ∃ i, Tryd.prog.info? 35 = some i ∧ i.zero = some (.agg #[.int .i64 0, .int .i64 0, .int .i64 0]) ∧ i.size = 3 ∧ i.bytes = 24 := by
  have hi := info_ev
  cases h : Tryd.prog.info? 35 with
  | none => rw [h] at hi; simp at hi
  | some i => rw [h] at hi; simp at hi; exact ⟨i, rfl, hi⟩

theorem new_ev (w : World) (x y z : Int) (t : TypeId) : ∀ j u, ([.int .i64 x, .int .i64 y, .int .i64 z] : List Value)[j]? = some u → (w.alloc (.cells #[.int .i64 x, .int .i64 y, .int .i64 z] t)).cell? ((⟨w.heap.size, 0, none⟩ : Addr).add j) = some u := by
  intro j u hj
  match j, hj with
  | 0, hj => simp at hj; subst hj; simp [Addr.add]
  | 1, hj => simp at hj; subst hj; simp [Addr.add]
  | 2, hj => simp at hj; subst hj; simp [Addr.add]

theorem own_below {w w' : World} {B : Nat} {t : TypeId} {n : Nat} {v : Value} {k : Nat} {xs : List Value} (h : w.ownsRow B t n v k xs) (hb : Below w.heap.size w w') : w'.ownsRow B t n v k xs :=
  h.kept (row := none) ⟨hb.os, hb.tape, hb.output, hb.size, fun i hi _ => hb.block i hi⟩ (by cases v.ownBlock <;> simp)

theorem scan_next {t : List UInt8} {p n : Nat} {acc : List Ev} {e : Ev} (h : ScanInv t p acc) (hp : p < t.length) (ho : oneAt (t.drop p) = (e, n)) (hh : (t.drop (p + n)).head? = some 32) : ScanInv t (p + n + 1) (acc ++ [e]) := by
  intro l hl ht
  obtain ⟨hk, h1, h2, h3⟩ := scan_step h hp hl ht
  rw [ho] at h1
  injection h1 with he hn
  subst hn
  by_cases h4 : acc.length + 1 < l.length
  · refine ⟨by simp; omega, ?_, ?_⟩
    · have ha := (h l hl ht).2.1
      rw [List.length_append, List.length_singleton, List.take_succ_eq_append_getElem hk, ← ha, he]
    · rw [List.length_append, List.length_singleton]; exact (h2 h4).2
  · rw [h3 h4] at hh; simp at hh

theorem scan_last {t : List UInt8} {p n : Nat} {acc : List Ev} {e : Ev} (h : ScanInv t p acc) (hp : p < t.length) (ho : oneAt (t.drop p) = (e, n)) (hh : ¬ (t.drop (p + n)).head? = some 32) : ∀ l, evsOkB l = true → evsText l = t → acc ++ [e] = l := by
  intro l hl ht
  obtain ⟨hk, h1, h2, h3⟩ := scan_step h hp hl ht
  rw [ho] at h1
  injection h1 with he hn
  subst hn
  by_cases h4 : acc.length + 1 < l.length
  · exact absurd (h2 h4).1 hh
  · have ha := (h l hl ht).2.1
    have e1 : l.take (acc.length + 1) = l := List.take_of_length_le (by omega)
    rw [← e1, List.take_succ_eq_append_getElem hk, ← ha, he]

theorem scan_end {t : List UInt8} {p : Nat} {acc : List Ev} (h : ScanInv t p acc) (hp : ¬ p < t.length) : ∀ l, evsOkB l = true → evsText l = t → acc = l := by
  intro l hl ht
  obtain ⟨h1, h2, h3⟩ := h l hl ht
  rw [List.drop_eq_nil_of_le (by omega)] at h3
  have : acc.length = l.length := by
    rcases Nat.lt_or_ge acc.length l.length with hlt | hge
    · rw [evsText_drop hlt] at h3
      have := congrArg List.length h3
      simp only [List.length_nil, List.length_append] at this
      have := List.length_pos_iff.2 (evText_ne l[acc.length])
      omega
    · omega
  rw [h2, this, List.take_length]

theorem head_at (s : ByteArray) {q : Nat} (h : q < s.size) : ((bs s).drop q).head? = some s[q] := by rw [bs_drop s h]; rfl
theorem u8_eq {c : UInt8} {n : Nat} (h : ((c.toNat : Int) == (n : Int)) = true) (hn : n < 256) : c = UInt8.ofNat n := by
  have : c.toNat = n := by have := eq_of_beq h; omega
  rw [← this]; simp
theorem u8_ne {c : UInt8} {n : Nat} (h : ((c.toNat : Int) == (n : Int)) = false) (hn : n < 256) : c ≠ UInt8.ofNat n := by
  intro e
  rw [beq_eq_false_iff_ne] at h
  apply h
  rw [e]; simp; omega

theorem oneAt_plain {t : List UInt8} {p q : Nat} {c : UInt8} {m : Int} (hd : t.drop p = c :: t.drop (p + 1)) (hm : m = (numAt 0 (t.drop (p + 1))).1 ∧ q = p + 1 + (numAt 0 (t.drop (p + 1))).2) (hn : ¬ (t.drop q).head? = some 61) :
    oneAt (t.drop p) = (⟨symB c, m, 0⟩, q - p) := by
  rw [hd]
  have e : (t.drop (p + 1)).drop (numAt 0 (t.drop (p + 1))).2 = t.drop q := by rw [List.drop_drop, hm.2]
  simp only [oneAt, e]
  rw [if_neg hn, ← hm.1]
  congr 1
  omega
theorem oneAt_val {t : List UInt8} {p q r : Nat} {c : UInt8} {m v : Int} (hd : t.drop p = c :: t.drop (p + 1)) (hm : m = (numAt 0 (t.drop (p + 1))).1 ∧ q = p + 1 + (numAt 0 (t.drop (p + 1))).2) (hn : (t.drop q).head? = some 61)
    (hv : v = (numAt 0 (t.drop (q + 1))).1 ∧ r = q + 1 + (numAt 0 (t.drop (q + 1))).2) : oneAt (t.drop p) = (⟨symB c, m, v⟩, r - p) := by
  rw [hd]
  have e : (t.drop (p + 1)).drop (numAt 0 (t.drop (p + 1))).2 = t.drop q := by rw [List.drop_drop, hm.2]
  have e2 : (t.drop q).tail = t.drop (q + 1) := by rw [List.tail_drop]
  simp only [oneAt, e, e2]
  rw [if_pos hn, ← hm.1, ← hv.1]
  congr 1
  omega

theorem wf_small {x y z : Int} (h1 : 0 ≤ y) (h2 : y ≤ 10000009) (h3 : 0 ≤ z) (h4 : z ≤ 10000009) : (⟨x, y, z⟩ : Ev).Wf := ⟨by show _ ≤ y; omega, by show y ≤ _; omega, by show _ ≤ z; omega, by show z ≤ _; omega⟩

theorem symOf_ex (c : UInt8) (w : World) :
    Calls Tryd.prog 35 #[.int .u8 c.toNat] w fun e w' => ∃ sy : Int, e = .returned (.int .i64 sy) ∧ Hid (sy = symB c) ∧ Below w.heap.size w w' :=
  (symOf_any c w).mono fun _ _ ⟨he, hb⟩ => ⟨_, he, rfl, hb⟩

set_option maxHeartbeats 4000000 in
theorem evsScan_any (s : ByteArray) (w : World) (hs : s.size ≤ 1048576) :
    Calls Tryd.prog 26 #[.string s] w fun e w' => ∃ (v : Value) (L : List Ev), e = .returned v ∧ w'.ownsRow w.heap.size 35 3 v L.length (evCells L) ∧ L.length ≤ s.size ∧ (∀ x ∈ L, x.Wf) ∧ (∀ l, evsOkB l = true → evsText l = bs s → L = l) ∧ Below w.heap.size w w' := by
  obtain ⟨i0, hi, hz0, hz1, hz2⟩ := info_ev_parts
  go_enter Tryd.func26, Tryd.ntmps26
  go_wp2
  go_step3
  go_wp2
  go_step3
  go_wp2
  go_loopw [3, 4, 5] (fun v pl _ wr => ∃ (p : Nat) (acc : List Ev), p ≤ s.size ∧ acc.length ≤ p ∧ pl = .int .i64 p ∧ wr.ownsRow w.heap.size 35 3 v acc.length (evCells acc) ∧ Hid (ScanInv (bs s) p acc ∧ ∀ e ∈ acc, e.Wf) ∧ Below w.heap.size w wr) (fun _ pl _ _ => s.size - (intOf pl).toNat)
  case atStart => exact ⟨0, [], Nat.zero_le _, Nat.le_refl _, rfl, World.ownsRow_nil _ _ _ _, ⟨fun l _ h => ⟨Nat.zero_le _, rfl, by simpa using h.symm⟩, by simp⟩, Below.refl _ _⟩
  case round =>
    obtain ⟨p, acc, hp, hap, rfl, hown, hinv, hb⟩ := hrel
    by_cases hlt : p < s.size
    · have hdr : Hid ((bs s).drop p = s[p] :: (bs s).drop (p + 1)) := bs_drop s hlt
      have hpl : Hid (p < (bs s).length) := by show _ < _; rw [bs_len]; exact hlt
      go_wp2_with fail
      refine (symOf_ex _ _).mono ?_
      rintro e w1 ⟨sy, rfl, hsy, hb1⟩
      have Hsy : Hid (sy = symB s[p]) := hsy.out
      clear hsy
      have hown1 := own_below hown hb1
      have hbe1 := hb.trans (hb1.mono hb.size)
      have hsz1 := hbe1.size
      go_wp2_with fail
      refine (numberAt_at s _ (p + 1) _ (by omega) (by omega) hs).mono ?_
      rintro e w2 ⟨m, q, rfl, rfl, hq0, hq1, hm0, hm1, hn⟩
      by_cases hq2 : q < s.size
      · cases h61 : ((s[q].toNat : Int) == 61)
        · have h61n : Hid (¬ ((bs s).drop q).head? = some 61) := by
            show ¬ _ = _
            rw [head_at s hq2, Option.some.injEq]
            exact u8_ne (n := 61) h61 (by decide)
          go_wp2_with (at_builtin; refine wpList_append_own _ rfl _ _ 25 rfl w.heap.size 35 i0 (.agg #[.int .i64 0, .int .i64 0, .int .i64 0]) 3 24 Tryd.underlying25 hi hz0 hz1 hz2 rfl (by decide) _ _ _ rfl ((hown1.alloc _).alloc _) ⟨w1.heap.size + 1, 0, none⟩ 1 1 [.int .i64 (sy), .int .i64 m, .int .i64 0] rfl rfl ?c1 ?c2 ?c3 ?c4 ?c5 ?_)
          case c1 => simpa using new_ev (w1.alloc _) (sy) m 0 35
          case c2 => intro u hu; simp at hu; rcases hu with rfl | rfl | rfl <;> rfl
          case c3 => unfold maxLen; omega
          case c4 => omega
          case c5 => simp; omega
          intro v' w3 hown' hgr _
          have hbe3 : Below w.heap.size w w3 := ((hbe1.alloc hsz1 _).alloc (by simp; omega) _).grown hgr (by simp; omega) (fun x hx => (hown1.lt x hx).1)
          have hone : Hid (oneAt ((bs s).drop p) = (⟨sy, m, 0⟩, q - p)) := by show _ = _; rw [Hsy.out]; exact oneAt_plain hdr.out hn.out h61n.out
          have hpn : Hid (p + (q - p) = q) := by show _ = _; omega
          have hown3 : w3.ownsRow w.heap.size 35 3 v' (acc ++ [(⟨sy, m, 0⟩ : Ev)]).length (evCells (acc ++ [(⟨sy, m, 0⟩ : Ev)])) := by rw [evCells_snoc, List.length_append]; exact hown'
          have hwf : Hid (∀ e ∈ acc ++ [(⟨sy, m, 0⟩ : Ev)], e.Wf) := by
            intro e he
            simp only [List.mem_append, List.mem_singleton] at he
            rcases he with he | rfl
            · exact hinv.out.2 e he
            · exact wf_small (by omega) (by omega) (by omega) (by omega)
          clear hown' hgr hown1 hown
          by_cases hr2 : q < s.size
          · cases h32 : ((s[q].toNat : Int) == 32)
            · have hh : Hid (¬ ((bs s).drop q).head? = some 32) := by
                show ¬ _ = _
                rw [head_at s hr2, Option.some.injEq]
                exact u8_ne (n := 32) h32 (by decide)
              go_wp2
              try rw [Exit.noGoto_ret]
              go_ret
              exact ⟨_, _, rfl, hown3, by simp; omega, hwf.out, scan_last hinv.out.1 hpl.out hone.out (by rw [hpn.out]; exact hh.out), hbe3⟩
            · have hh : Hid (((bs s).drop q).head? = some 32) := by
                show _ = _
                rw [head_at s hr2, u8_eq (n := 32) h32 (by decide)]; rfl
              go_wp2
              refine ⟨⟨q + 1, acc ++ [⟨sy, m, 0⟩], by omega, by simp; omega, by go_num, hown3, ⟨?_, hwf.out⟩, hbe3⟩, by simp [intOf]; omega⟩
              have := scan_next hinv.out.1 hpl.out hone.out (by rw [hpn.out]; exact hh.out)
              rwa [hpn.out] at this
          · exact absurd hq2 hr2
        · have h61n : Hid (((bs s).drop q).head? = some 61) := by
            show _ = _
            rw [head_at s hq2, u8_eq (n := 61) h61 (by decide)]; rfl
          go_wp2_with fail
          refine (numberAt_at s _ (q + 1) _ (by omega) (by omega) hs).mono ?_
          rintro e w' ⟨mv, r, rfl, hw', hr0, hr1, hv0, hv1, hnv⟩
          subst hw'
          go_wp2_with (at_builtin; refine wpList_append_own _ rfl _ _ 25 rfl w.heap.size 35 i0 (.agg #[.int .i64 0, .int .i64 0, .int .i64 0]) 3 24 Tryd.underlying25 hi hz0 hz1 hz2 rfl (by decide) _ _ _ rfl ((hown1.alloc _).alloc _) ⟨w1.heap.size + 1, 0, none⟩ 1 1 [.int .i64 (sy), .int .i64 m, .int .i64 mv] rfl rfl ?c1 ?c2 ?c3 ?c4 ?c5 ?_)
          case c1 => simpa using new_ev (w1.alloc _) (sy) m mv 35
          case c2 => intro u hu; simp at hu; rcases hu with rfl | rfl | rfl <;> rfl
          case c3 => unfold maxLen; omega
          case c4 => omega
          case c5 => simp; omega
          intro v' w3 hown' hgr _
          have hbe3 : Below w.heap.size w w3 := ((hbe1.alloc hsz1 _).alloc (by simp; omega) _).grown hgr (by simp; omega) (fun x hx => (hown1.lt x hx).1)
          have hone : Hid (oneAt ((bs s).drop p) = (⟨sy, m, mv⟩, r - p)) := by show _ = _; rw [Hsy.out]; exact oneAt_val hdr.out hn.out h61n.out hnv.out
          have hpn : Hid (p + (r - p) = r) := by show _ = _; omega
          have hown3 : w3.ownsRow w.heap.size 35 3 v' (acc ++ [(⟨sy, m, mv⟩ : Ev)]).length (evCells (acc ++ [(⟨sy, m, mv⟩ : Ev)])) := by rw [evCells_snoc, List.length_append]; exact hown'
          have hwf : Hid (∀ e ∈ acc ++ [(⟨sy, m, mv⟩ : Ev)], e.Wf) := by
            intro e he
            simp only [List.mem_append, List.mem_singleton] at he
            rcases he with he | rfl
            · exact hinv.out.2 e he
            · exact wf_small (by omega) (by omega) (by omega) (by omega)
          clear hown' hgr hown1 hown
          by_cases hr2 : r < s.size
          · cases h32 : ((s[r].toNat : Int) == 32)
            · have hh : Hid (¬ ((bs s).drop r).head? = some 32) := by
                show ¬ _ = _
                rw [head_at s hr2, Option.some.injEq]
                exact u8_ne (n := 32) h32 (by decide)
              go_wp2
              try rw [Exit.noGoto_ret]
              go_ret
              exact ⟨_, _, rfl, hown3, by simp; omega, hwf.out, scan_last hinv.out.1 hpl.out hone.out (by rw [hpn.out]; exact hh.out), hbe3⟩
            · have hh : Hid (((bs s).drop r).head? = some 32) := by
                show _ = _
                rw [head_at s hr2, u8_eq (n := 32) h32 (by decide)]; rfl
              go_wp2
              refine ⟨⟨r + 1, acc ++ [⟨sy, m, mv⟩], by omega, by simp; omega, by go_num, hown3, ⟨?_, hwf.out⟩, hbe3⟩, by simp [intOf]; omega⟩
              have := scan_next hinv.out.1 hpl.out hone.out (by rw [hpn.out]; exact hh.out)
              rwa [hpn.out] at this
          · have hh : Hid (¬ ((bs s).drop r).head? = some 32) := by
              show ¬ _ = _
              rw [bs_drop_end s hr2]; simp
            go_wp2
            try rw [Exit.noGoto_ret]
            go_ret
            exact ⟨_, _, rfl, hown3, by simp; omega, hwf.out, scan_last hinv.out.1 hpl.out hone.out (by rw [hpn.out]; exact hh.out), hbe3⟩
      · have h61n : Hid (¬ ((bs s).drop q).head? = some 61) := by
          show ¬ _ = _
          rw [bs_drop_end s hq2]; simp
        go_wp2_with (at_builtin; refine wpList_append_own _ rfl _ _ 25 rfl w.heap.size 35 i0 (.agg #[.int .i64 0, .int .i64 0, .int .i64 0]) 3 24 Tryd.underlying25 hi hz0 hz1 hz2 rfl (by decide) _ _ _ rfl ((hown1.alloc _).alloc _) ⟨w1.heap.size + 1, 0, none⟩ 1 1 [.int .i64 (sy), .int .i64 m, .int .i64 0] rfl rfl ?c1 ?c2 ?c3 ?c4 ?c5 ?_)
        case c1 => simpa using new_ev (w1.alloc _) (sy) m 0 35
        case c2 => intro u hu; simp at hu; rcases hu with rfl | rfl | rfl <;> rfl
        case c3 => unfold maxLen; omega
        case c4 => omega
        case c5 => simp; omega
        intro v' w3 hown' hgr _
        have hbe3 : Below w.heap.size w w3 := ((hbe1.alloc hsz1 _).alloc (by simp; omega) _).grown hgr (by simp; omega) (fun x hx => (hown1.lt x hx).1)
        have hone : Hid (oneAt ((bs s).drop p) = (⟨sy, m, 0⟩, q - p)) := by show _ = _; rw [Hsy.out]; exact oneAt_plain hdr.out hn.out h61n.out
        have hpn : Hid (p + (q - p) = q) := by show _ = _; omega
        have hown3 : w3.ownsRow w.heap.size 35 3 v' (acc ++ [(⟨sy, m, 0⟩ : Ev)]).length (evCells (acc ++ [(⟨sy, m, 0⟩ : Ev)])) := by rw [evCells_snoc, List.length_append]; exact hown'
        have hwf : Hid (∀ e ∈ acc ++ [(⟨sy, m, 0⟩ : Ev)], e.Wf) := by
          intro e he
          simp only [List.mem_append, List.mem_singleton] at he
          rcases he with he | rfl
          · exact hinv.out.2 e he
          · exact wf_small (by omega) (by omega) (by omega) (by omega)
        clear hown' hgr hown1 hown
        by_cases hr2 : q < s.size
        · exact absurd hr2 hq2
        · have hh : Hid (¬ ((bs s).drop q).head? = some 32) := by
            show ¬ _ = _
            rw [bs_drop_end s hr2]; simp
          go_wp2
          try rw [Exit.noGoto_ret]
          go_ret
          exact ⟨_, _, rfl, hown3, by simp; omega, hwf.out, scan_last hinv.out.1 hpl.out hone.out (by rw [hpn.out]; exact hh.out), hbe3⟩
    · go_wp2
      try rw [Exit.noGoto_ret]
      go_ret
      exact ⟨_, _, rfl, hown, by omega, hinv.out.2, scan_end hinv.out.1 (by rw [bs_len]; omega), hb⟩
end Go.Proofs.YtpdboneapodkjaaDoor
