/- Where something was found: both OccOk at one. -/
import Derived.Test.YtlfejpakmgbpnaaDoorOcc
import Derived.Laws.BitsAllLaws
namespace Go.Proofs.YtlfejpakmgbpnaaDoor
open Go.ChangeShapes Go.WideShapes Go.ChangeAt Go.RowKit
set_option linter.unusedVariables false
set_option maxRecDepth 4000

/-- Numbers of events, ascending behind last. -/
def idsFrom (last : Int) : List Int → Bool
  | [] => true
  | i :: r => decide (0 ≤ i ∧ i < 24 ∧ last < i) && idsFrom i r
/-- The numbers as bits. -/
def bitsOf (l : List Int) : Nat := l.foldl (fun s i => s ||| 2 ^ i.toNat) 0
theorem bitsOf_snoc (l : List Int) (i : Int) : bitsOf (l ++ [i]) = bitsOf l ||| 2 ^ i.toNat := by simp [bitsOf]
def occOkB (f t : Int) (l : List Int) : Bool := decide (1 ≤ f ∧ f ≤ t ∧ t ≤ 2000 ∧ 0 < l.length) && idsFrom (-1) l

theorem idsFrom_step {last : Int} {l : List Int} {k : Nat} (h : k < l.length) : idsFrom last (l.drop k) = (decide (0 ≤ l[k] ∧ l[k] < 24 ∧ last < l[k]) && idsFrom l[k] (l.drop (k + 1))) := by
  rw [List.drop_eq_getElem_cons h]; rfl
theorem idsFrom_end {last : Int} {l : List Int} {k : Nat} (h : ¬ k < l.length) : idsFrom last (l.drop k) = true := by
  rw [List.drop_eq_nil_of_le (by omega)]; rfl

/-- s is bits, la the highest (-1: none). -/
structure TopBit (s : Nat) (la : Int) : Prop where
  lo : -1 ≤ la
  hi : la < 24
  lt : s < 2 ^ (la + 1).toNat
  ge : 0 ≤ la → 2 ^ la.toNat ≤ s
theorem TopBit.zero : TopBit 0 (-1) := ⟨by omega, by omega, by simp, by omega⟩
theorem TopBit.above {s : Nat} {la i : Int} (h : TopBit s la) (hi : la < i) : (s : Int) / 2 ^ i.toNat = 0 := by
  have h1 := h.lt
  have h2 : 2 ^ (la + 1).toNat ≤ 2 ^ i.toNat := Nat.pow_le_pow_right (by omega) (by omega)
  have : s / 2 ^ i.toNat = 0 := Nat.div_eq_of_lt (by omega)
  have e := congrArg (Int.ofNat) this
  simpa using e
theorem TopBit.within {s : Nat} {la i : Int} (h : TopBit s la) (h0 : 0 ≤ i) (hi : i ≤ la) : ¬ (s : Int) / 2 ^ i.toNat = 0 := by
  have h1 := h.ge (by omega)
  have h2 : 2 ^ i.toNat ≤ 2 ^ la.toNat := Nat.pow_le_pow_right (by omega) (by omega)
  have : 0 < s / 2 ^ i.toNat := Nat.div_pos (by omega) (Nat.two_pow_pos _)
  intro e
  have e' : ((s / 2 ^ i.toNat : Nat) : Int) = 0 := by simpa using e
  omega
theorem TopBit.next {s : Nat} {la i : Int} (h : TopBit s la) (hi : la < i) (h24 : i < 24) : TopBit (s ||| 2 ^ i.toNat) i := by
  have h0 := h.lo
  have h1 := h.lt
  have h2 : 2 ^ (la + 1).toNat ≤ 2 ^ i.toNat := Nat.pow_le_pow_right (by omega) (by omega)
  refine ⟨by omega, h24, ?_, fun _ => Nat.right_le_or⟩
  rw [show (i + 1).toNat = i.toNat + 1 by omega]
  exact Nat.or_lt_two_pow (by rw [Nat.pow_succ]; omega) (Nat.pow_lt_pow_right (by omega) (by omega))
theorem TopBit.small {s : Nat} {la : Int} (h : TopBit s la) : s < 16777216 := by
  have h1 := h.lt
  have h2 : 2 ^ (la + 1).toNat ≤ 2 ^ 24 := Nat.pow_le_pow_right (by omega) (by have := h.hi; omega)
  omega
theorem TopBit.none {s : Nat} {la : Int} (h : TopBit s la) : s = 0 ↔ la = -1 := by
  constructor
  · intro e
    have := h.lo
    by_cases hl : 0 ≤ la
    · have h1 := h.ge hl
      have := Nat.two_pow_pos la.toNat
      omega
    · omega
  · intro e
    have := h.lt
    rw [e] at this
    simpa using this

/-- What idSetOf answers: the bits, and whether they are numbers of events. -/
def setEnd (l : List Int) : Ending := .returned (.tuple #[.int .u32 (if idsFrom (-1) l then (bitsOf l : Int) else 0), .bool (idsFrom (-1) l && decide (0 < l.length))])
theorem setEnd_no {l : List Int} (h : idsFrom (-1) l = false) : Ending.returned (.tuple #[.int .u32 0, .bool false]) = setEnd l := by simp [setEnd, h]
theorem setEnd_yes {l : List Int} {s : Nat} {b : Bool} (h : idsFrom (-1) l = true) (hs : s = bitsOf l) (hb : b = decide (0 < l.length)) : Ending.returned (.tuple #[.int .u32 (s : Int), .bool b]) = setEnd l := by simp [setEnd, h, hs, hb]

set_option maxHeartbeats 400000 in
theorem idSetOf_any (a : Option Addr) (cap : Nat) (l : List Int) (w : World) (h : Ints w a l) :
    Calls Tryd.prog 54 #[.slice a l.length cap] w fun e w' => e = setEnd l ∧ Below w.heap.size w w' := by
  have hn := h.len
  unfold maxLen at hn
  go_enter Tryd.func54, Tryd.ntmps54
  go_wp2
  go_loopw [4, 6, 9] (fun st p i wr => ∃ k s : Nat, ∃ la : Int, k ≤ l.length ∧ i = .int .i64 k ∧ st = .int .u32 s ∧ Hid (s = bitsOf (l.take k)) ∧ Hid (TopBit s la) ∧ Hid (idsFrom (-1) l = idsFrom la (l.drop k)) ∧ Hid (la = -1 ↔ k = 0) ∧ Below w.heap.size w wr) (fun _ _ i _ => l.length - (intOf i).toNat)
  case atStart => exact ⟨0, 0, -1, Nat.zero_le _, rfl, rfl, by show _ = _; simp [bitsOf], TopBit.zero, rfl, by show _ ↔ _; simp, Below.refl _ _⟩
  case round =>
    obtain ⟨k, s, la, hk, rfl, rfl, hs, ht, hr, hz, hb⟩ := hrel
    have hsm := ht.out.small
    by_cases hlt : k < l.length
    · obtain ⟨b, off, rfl, hbl, hc⟩ := (h.below hb).cells (by omega)
      have c0 := hc k hlt
      clear hc
      have hst : Hid (idsFrom la (l.drop k) = _) := idsFrom_step hlt
      have htk : Hid (bitsOf (l.take (k + 1)) = bitsOf (l.take k) ||| 2 ^ l[k].toNat) := by show _ = _; rw [List.take_succ_eq_append_getElem hlt, bitsOf_snoc]
      generalize l[k] = ek at c0 hst htk
      by_cases hin : 0 ≤ ek ∧ ek ≤ 23
      · obtain ⟨he0, he1⟩ := hin
        by_cases hgt : la < ek
        · have hq := ht.out.above hgt
          have hpow : (2 : Nat) ^ ek.toNat < 2 ^ 32 := Nat.pow_lt_pow_right (by omega) (by omega)
          have hwr : IntKind.u32.wrap (2 ^ ek.toNat) = ((2 ^ ek.toNat : Nat) : Int) := by
            have e : (2 : Int) ^ ek.toNat = ((2 ^ ek.toNat : Nat) : Int) := by simp
            rw [e]
            generalize 2 ^ ek.toNat = P at hpow
            rw [IntKind.wrap_u32]
            omega
          have hor := u32_or_nat s (2 ^ ek.toNat) (by omega) (by omega)
          obtain ⟨P, hP⟩ : ∃ P : Nat, 2 ^ ek.toNat = P := ⟨_, rfl⟩
          rw [hP] at hwr hor
          go_wp2_with (go_at_call 14; refine (within_any _ _ _ _).mono ?_; rintro e w' ⟨rfl, rfl⟩)
          refine ⟨⟨k + 1, s ||| P, ek, by omega, by go_num, rfl, ?_, ?_, ?_, ?_, hb⟩, by simp [intOf]; omega⟩
          · show _ = _; rw [htk.out, ← hs.out, hP]
          · show TopBit _ _; rw [← hP]; exact ht.out.next hgt (by omega)
          · show _ = _; rw [hr.out, hst.out, decide_eq_true (by omega)]; rfl
          · show _ ↔ _; omega
        · have hq := ht.out.within he0 (by omega)
          go_wp2_with (go_at_call 14; refine (within_any _ _ _ _).mono ?_; rintro e w' ⟨rfl, rfl⟩)
          go_ret2
          exact ⟨setEnd_no (by rw [hr.out, hst.out, decide_eq_false (by omega)]; rfl), hb⟩
      · go_wp2_with (go_at_call 14; refine (within_any _ _ _ _).mono ?_; rintro e w' ⟨rfl, rfl⟩)
        all_goals go_ret2
        all_goals exact ⟨setEnd_no (by rw [hr.out, hst.out, decide_eq_false (by omega)]; rfl), hb⟩
    · have hid : Hid (idsFrom (-1) l = true) := by show _ = _; rw [hr.out, idsFrom_end hlt]
      have hbt : Hid (s = bitsOf l) := by show _ = _; rw [hs.out, List.take_of_length_le (by omega)]
      by_cases hs0 : s = 0
      · have hl0 : Hid (l.length = 0) := by show _ = _; have := (hz.out.1 (ht.out.none.1 hs0)); omega
        subst hs0
        go_wp2
        go_ret2
        exact ⟨setEnd_yes hid.out hbt.out (by rw [hl0.out]; rfl), hb⟩
      · have hl0 : Hid (0 < l.length) := by
          show 0 < _
          have : ¬ la = -1 := fun e => hs0 (ht.out.none.2 e)
          have : ¬ k = 0 := fun e => this (hz.out.2 e)
          omega
        have hs1 : ((s : Int) != 0) = true := by simpa using hs0
        go_wp2
        go_ret2
        exact ⟨setEnd_yes hid.out hbt.out (by simpa using hl0.out), hb⟩

theorem box3 {w w1 : World} {x y z : Value} {T : TypeId} (hb1 : Below (w.alloc (.cells #[x, y, z] T)).heap.size (w.alloc (.cells #[x, y, z] T)) w1) :
    w1.cell? ⟨w.heap.size, 0, none⟩ = some x ∧ w1.cell? ⟨w.heap.size, 1, none⟩ = some y ∧ w1.cell? ⟨w.heap.size, 2, none⟩ = some z := by
  have h : w1.heap[w.heap.size]? = some (.cells #[x, y, z] T (0, 0)) := (hb1.block _ (by simp)).trans (heap_alloc_new w _)
  exact ⟨oCell h 0, oCell h 1, oCell h 2⟩

set_option maxHeartbeats 400000 in
theorem implOccOk_any (f t : Int) (a : Option Addr) (cap : Nat) (l : List Int) (w : World) (h : Ints w a l) :
    Calls Tryd.prog 45 #[.agg #[.int .i64 f, .int .i64 t, .slice a l.length cap]] w fun e w' => e = .returned (.bool (occOkB f t l)) ∧ Below w.heap.size w w' := by
  have hb0 : Below w.heap.size w (w.alloc (.cells #[.int .i64 f, .int .i64 t, .slice a l.length cap] 45)) := (Below.refl _ _).alloc (Nat.le_refl _) _
  go_enter Tryd.func45, Tryd.ntmps45
  go_wp2_with fail
  refine (idSetOf_any _ _ l _ (h.below hb0)).mono ?_
  rintro e w1 ⟨rfl, hb1⟩
  have hbe := hb0.trans (hb1.mono hb0.size)
  unfold setEnd
  generalize (if idsFrom (-1) l = true then (bitsOf l : Int) else 0) = G
  obtain ⟨c0, c1, c2⟩ := box3 hb1
  have hx : Hid (occOkB f t l = (decide (1 ≤ f ∧ f ≤ t ∧ t ≤ 2000) && (idsFrom (-1) l && decide (0 < l.length)))) := by
    show _ = _
    unfold occOkB
    cases idsFrom (-1) l
    · simp
    · rw [Bool.eq_iff_iff]
      simp
      omega
  cases hq : idsFrom (-1) l && decide (0 < l.length)
  · go_wp2
    go_ret
    exact ⟨ret_bool (by rw [hx.out, hq]; simp), hbe⟩
  · go_wp2
    all_goals go_ret
    all_goals exact ⟨ret_bool (by rw [hx.out, hq, Bool.and_true, Bool.eq_iff_iff]; simp; omega), hbe⟩

theorem idsFrom_length : ∀ (l : List Int) (last : Int), idsFrom last l = true → -1 ≤ last → last < 24 → (l.length : Int) ≤ 23 - last
  | [], last, _, h1, h2 => by simp; omega
  | i :: r, last, h, h1, h2 => by
    simp [idsFrom] at h
    have := idsFrom_length r i h.2 (by omega) (by omega)
    simp
    omega
theorem occOkB_no {f t : Int} {l : List Int} (h : ¬ (1 ≤ f ∧ f ≤ t ∧ t ≤ 2000 ∧ 0 < l.length ∧ l.length ≤ 24)) : occOkB f t l = false := by
  rw [Bool.eq_false_iff]
  intro e
  simp [occOkB] at e
  have := idsFrom_length l (-1) e.2 (by omega) (by omega)
  omega
theorem occOkB_mid {f t : Int} {l : List Int} (h : 1 ≤ f ∧ f ≤ t ∧ t ≤ 2000 ∧ 0 < l.length ∧ l.length ≤ 24) : occOkB f t l = idsFrom (-1) (l.drop 0) := by
  simp [occOkB]
  intro; omega

/-- The number ahead of place k, -1 of the first. -/
def idPrev (l : List Int) (k : Nat) : Int := match k with | 0 => -1 | j + 1 => l[j]?.getD 0
theorem idPrev_succ {l : List Int} {k : Nat} (h : k < l.length) : idPrev l (k + 1) = l[k] := by simp [idPrev, h]

set_option maxHeartbeats 1000000 in
theorem specOccOk_any (f t : Int) (a : Option Addr) (cap : Nat) (l : List Int) (w : World) (h : Ints w a l) :
    Calls Tryd.prog 37 #[.agg #[.int .i64 f, .int .i64 t, .slice a l.length cap]] w fun e w' => e = .returned (.bool (occOkB f t l)) ∧ Below w.heap.size w w' := by
  have hn := h.len
  unfold maxLen at hn
  have hb0 : Below w.heap.size w (w.alloc (.cells #[.int .i64 f, .int .i64 t, .slice a l.length cap] 45)) := (Below.refl _ _).alloc (Nat.le_refl _) _
  have hc := box3 (Below.refl _ (w.alloc (.cells #[.int .i64 f, .int .i64 t, .slice a l.length cap] 45)))
  obtain ⟨w0, hw0⟩ : ∃ w0, w.alloc (.cells #[.int .i64 f, .int .i64 t, .slice a l.length cap] 45) = w0 := ⟨_, rfl⟩
  have hsz : w.heap.size < w0.heap.size := by rw [← hw0]; simp
  rw [hw0] at hb0 hc
  obtain ⟨p0, p1, p2⟩ := hc
  by_cases hok : 1 ≤ f ∧ f ≤ t ∧ t ≤ 2000 ∧ 0 < l.length ∧ l.length ≤ 24
  · have hx : Hid (occOkB f t l = idsFrom (idPrev l 0) (l.drop 0)) := occOkB_mid hok
    obtain ⟨h1, h2, h3, h4, h5⟩ := hok
    go_enter Tryd.func37, Tryd.ntmps37
    go_wp2
    go_loopw [3] (fun i wr => ∃ k : Nat, k ≤ l.length ∧ i = .int .i64 k ∧ Hid (occOkB f t l = idsFrom (idPrev l k) (l.drop k)) ∧ Below w0.heap.size w0 wr) (fun i _ => l.length - (intOf i).toNat)
    case atStart => exact ⟨0, Nat.zero_le _, rfl, hx, Below.refl _ _⟩
    case round =>
      obtain ⟨k, hk, rfl, hr, hb⟩ := hrel
      have hsz1 := hb.size
      have q2 : wr.cell? ⟨w.heap.size, 2, none⟩ = some (.slice a l.length cap) := by rw [hb.cell hsz]; exact p2
      have hbw := hb0.trans (hb.mono hb0.size)
      by_cases hlt : k < l.length
      · obtain ⟨b, off, rfl, hbl, hc⟩ := (h.below hbw).cells (by omega)
        have c0 := hc k hlt
        have hst : Hid (idsFrom (idPrev l k) (l.drop k) = _) := idsFrom_step hlt
        have hps : Hid (idPrev l (k + 1) = _) := idPrev_succ hlt
        have a0 := fun u : After wr => u.cell c0 hbl
        have a2 := fun u : After wr => u.cell q2 (by show w.heap.size < _; omega)
        have hpv : k ≠ 0 → Hid (idPrev l k = l[k - 1]) ∧ wr.cell? ⟨b, off + (k - 1), none⟩ = some (.int .i64 l[k - 1]) := by
          intro h0
          refine ⟨?_, hc (k - 1) (by omega)⟩
          have := idPrev_succ (l := l) (k := k - 1) (by omega)
          rwa [Nat.sub_add_cancel (by omega)] at this
        clear hc
        generalize l[k] = ek at c0 a0 hst hps
        by_cases hneg : ek < 0
        · have d0 : decide (ek < 0) = true := by simpa using hneg
          go_wp2
          have hany := after_any
          refine wp_region_after (by kernel_rfl) (by kernel_rfl) ?_
          repeat (go_big_quiet_step (fail))
          refine wpQuiet_nil ?_
          intro w1 hu
          have hb1 := hb.trans ((after_of hu).mono hb.size)
          clear hu
          go_wp2
          go_ret
          exact ⟨ret_bool (by rw [hr.out, hst.out, decide_eq_false (by omega)]; rfl), hb0.trans (hb1.mono hb0.size)⟩
        · have d0 : decide (ek < 0) = false := by simpa using hneg
          by_cases hbig : 24 ≤ ek
          · have d1 : decide (24 ≤ ek) = true := by simpa using hbig
            go_wp2
            have hany := after_any
            refine wp_region_after (by kernel_rfl) (by kernel_rfl) ?_
            repeat (go_big_quiet_step (fail))
            refine wpQuiet_nil ?_
            intro w1 hu
            have hb1 := hb.trans ((after_of hu).mono hb.size)
            clear hu
            go_wp2
            go_ret
            exact ⟨ret_bool (by rw [hr.out, hst.out, decide_eq_false (by omega)]; rfl), hb0.trans (hb1.mono hb0.size)⟩
          · have d1 : decide (24 ≤ ek) = false := by simpa using hbig
            by_cases hk0 : k = 0
            · have hg0 : decide (0 < k) = false := by simp; omega
              have hk1 : (k : Int) ≤ 0 := by omega
              have hp0 : Hid (idPrev l k = -1) := by show _ = _; rw [hk0]; rfl
              clear hk0 hpv
              go_wp2
              have hany := after_any
              refine wp_region_after (by kernel_rfl) (by kernel_rfl) ?_
              repeat (go_big_quiet_step (fail))
              refine wpQuiet_nil ?_
              intro w1 hu
              have hb1 := hb.trans ((after_of hu).mono hb.size)
              clear hu
              go_wp2
              exact ⟨⟨k + 1, by omega, by go_num, by show _ = _; rw [hr.out, hst.out, decide_eq_true (by have := hp0.out; omega), hps.out]; rfl, hb1⟩, by simp [intOf]; omega⟩
            · have hg0 : decide (0 < k) = true := by simp; omega
              have hk1 : (0 : Int) < (k : Int) := by omega
              obtain ⟨hp0, z0⟩ := hpv hk0
              have y0 := fun u : After wr => u.cell z0 hbl
              have hlt1 : k - 1 < l.length := by omega
              clear hk0
              generalize l[k - 1] = ep at hp0 z0 y0
              by_cases hle : ek ≤ ep
              · have d2 : decide (ek ≤ ep) = true := by simpa using hle
                go_wp2
                have hany := after_any
                refine wp_region_after (by kernel_rfl) (by kernel_rfl) ?_
                repeat (go_big_quiet_step (fail))
                refine wpQuiet_nil ?_
                intro w1 hu
                have hb1 := hb.trans ((after_of hu).mono hb.size)
                clear hu
                go_wp2
                go_ret
                exact ⟨ret_bool (by rw [hr.out, hst.out, decide_eq_false (by have := hp0.out; omega)]; rfl), hb0.trans (hb1.mono hb0.size)⟩
              · have d2 : decide (ek ≤ ep) = false := by simpa using hle
                go_wp2
                have hany := after_any
                refine wp_region_after (by kernel_rfl) (by kernel_rfl) ?_
                repeat (go_big_quiet_step (fail))
                refine wpQuiet_nil ?_
                intro w1 hu
                have hb1 := hb.trans ((after_of hu).mono hb.size)
                clear hu
                go_wp2
                exact ⟨⟨k + 1, by omega, by go_num, by show _ = _; rw [hr.out, hst.out, decide_eq_true (by have := hp0.out; omega), hps.out]; rfl, hb1⟩, by simp [intOf]; omega⟩
      · go_wp2
        go_ret
        exact ⟨ret_bool (by rw [hr.out, idsFrom_end hlt]), hbw⟩
  · rw [occOkB_no hok]
    have hok' : ¬ (1 ≤ f ∧ f ≤ t ∧ t ≤ 2000 ∧ (1 : Int) ≤ (l.length : Int) ∧ (l.length : Int) ≤ 24) := by omega
    clear hok
    go_enter Tryd.func37, Tryd.ntmps37
    go_wp2
    all_goals first | (exfalso; omega) | skip
    all_goals go_ret
    all_goals exact ⟨rfl, hb0⟩
end Go.Proofs.YtlfejpakmgbpnaaDoor
