/- Lists of places: comparison, both OccsOk. -/
import Derived.Test.YtlfejpakmgbpnaaDoorOccs
import Derived.Test.YtlfejpakmgbpnaaDoorOcc4
import Derived.Test.YtlfejpakmgbpnaaDoorAfter
namespace Go.Proofs.YtlfejpakmgbpnaaDoor
open Go.ChangeShapes Go.WideShapes Go.ChangeAt Go.RowKit
set_option linter.unusedVariables false
set_option maxRecDepth 4000

def oEqB (x y : Occ) : Bool := occEqB x.fr x.tl x.ids y.fr y.tl y.ids
theorem oEqB_iff (x y : Occ) : oEqB x y = true ↔ x = y := by
  cases x; cases y; simp [oEqB, occEqB_iff]
def occsEqB : List Occ → List Occ → Bool
  | [], [] => true
  | x :: r, y :: s => oEqB x y && occsEqB r s
  | _, _ => false
theorem occsEqB_iff : ∀ (a b : List Occ), occsEqB a b = true ↔ a = b
  | [], [] => by simp [occsEqB]
  | [], _ :: _ => by simp [occsEqB]
  | _ :: _, [] => by simp [occsEqB]
  | x :: r, y :: s => by simp [occsEqB, oEqB_iff, occsEqB_iff r s]
theorem occsEqB_self (a : List Occ) : occsEqB a a = true := (occsEqB_iff a a).2 rfl
theorem occsEqB_len {a b : List Occ} (h : a.length ≠ b.length) : occsEqB a b = false := by
  rw [Bool.eq_false_iff]; intro e; exact h (by rw [(occsEqB_iff a b).1 e])
theorem occsEqB_step {a b : List Occ} {k : Nat} (h : k < a.length) (h' : k < b.length) : occsEqB (a.drop k) (b.drop k) = (occEqB a[k].fr a[k].tl a[k].ids b[k].fr b[k].tl b[k].ids && occsEqB (a.drop (k + 1)) (b.drop (k + 1))) := by
  rw [List.drop_eq_getElem_cons h, List.drop_eq_getElem_cons h']; rfl
theorem occsEqB_end {a b : List Occ} {k : Nat} (h : ¬ k < a.length) (h' : a.length = b.length) : occsEqB (a.drop k) (b.drop k) = true := by
  rw [List.drop_eq_nil_of_le (by omega), List.drop_eq_nil_of_le (by omega)]; rfl

set_option maxHeartbeats 1000000 in
theorem eqOccS_any (a a' : Option Addr) (cap cap' : Nat) (l l' : List Occ) (w : World) (h : Occs w a l) (h' : Occs w a' l') :
    Calls Tryd.prog 50 #[.slice a l.length cap, .slice a' l'.length cap'] w fun e w' => e = .returned (.bool (occsEqB l l')) ∧ Below w.heap.size w w' := by
  have hn := h.len
  have hn' := h'.len
  unfold maxLen at hn hn'
  by_cases hne : l.length = l'.length
  · have hf : Hid (occsEqB l l' = occsEqB (l.drop 0) (l'.drop 0)) := rfl
    have hnb : ((l.length : Int) != (l'.length : Int)) = false := by simp [hne]
    have Hne : Hid (l.length = l'.length) := hne
    have hle : l.length ≤ l'.length := by omega
    clear hne
    go_enter Tryd.func50, Tryd.ntmps50
    go_wp2
    go_loopw [5] (fun i wr => ∃ k : Nat, k ≤ l.length ∧ i = .int .i64 k ∧ Hid (occsEqB l l' = occsEqB (l.drop k) (l'.drop k)) ∧ Below w.heap.size w wr) (fun i _ => l.length - (intOf i).toNat)
    case atStart => exact ⟨0, Nat.zero_le _, rfl, hf, Below.refl _ _⟩
    case round =>
      obtain ⟨k, hk, rfl, hr, hb⟩ := hrel
      by_cases hlt : k < l.length
      · obtain ⟨b, off, p, cp, rfl, hbl, c0, c1, c2, hids⟩ := (h.below hb).at hlt
        obtain ⟨b', off', p', cp', rfl, hbl', d0, d1, d2, hids'⟩ := (h'.below hb).at (k := k) (by omega)
        have hst : Hid (occsEqB (l.drop k) (l'.drop k) = _) := occsEqB_step hlt (show k < l'.length by omega)
        have hlt' : k < l'.length := by omega
        generalize l[k] = o at c0 c1 c2 hids hst
        generalize l'[k] = o' at d0 d1 d2 hids' hst
        have hcall := fun (u : After wr) => calls_after (u := u) (eqOcc_any o.fr o.tl p cp o.ids o'.fr o'.tl p' cp' o'.ids u.v (hids.below u.h) (hids'.below u.h))
        have a0 := fun u : After wr => u.cell c0 hbl
        have a1 := fun u : After wr => u.cell c1 hbl
        have a2 := fun u : After wr => u.cell c2 hbl
        have g0 := fun u : After wr => u.cell d0 hbl'
        have g1 := fun u : After wr => u.cell d1 hbl'
        have g2 := fun u : After wr => u.cell d2 hbl'
        cases hev : occEqB o.fr o.tl o.ids o'.fr o'.tl o'.ids
        · rw [hev] at hcall
          go_wp2
          have hany := after_any
          refine wp_region_after (by kernel_rfl) (by kernel_rfl) ?_
          repeat (go_big_quiet_step ((go_at_call 56; refine hcall _)))
          refine wpQuiet_nil ?_
          intro w1 hu
          have hbe : Below w.heap.size w w1 := hb.trans ((after_of hu).mono hb.size)
          clear hu
          go_wp2
          go_ret
          exact ⟨ret_bool (by rw [hr.out, hst.out, hev]; rfl), hbe⟩
        · rw [hev] at hcall
          go_wp2
          have hany := after_any
          refine wp_region_after (by kernel_rfl) (by kernel_rfl) ?_
          repeat (go_big_quiet_step ((go_at_call 56; refine hcall _)))
          refine wpQuiet_nil ?_
          intro w1 hu
          have hbe : Below w.heap.size w w1 := hb.trans ((after_of hu).mono hb.size)
          clear hu
          go_wp2
          exact ⟨⟨k + 1, by omega, by go_num, by show _ = _; rw [hr.out, hst.out, hev]; rfl, hbe⟩, by simp [intOf]; omega⟩
      · go_wp2
        go_ret
        exact ⟨ret_bool (by rw [hr.out, occsEqB_end hlt Hne.out]), hb⟩
  · rw [occsEqB_len hne]
    have hnb : ((l.length : Int) != (l'.length : Int)) = true := by simp; omega
    go_enter Tryd.func50, Tryd.ntmps50
    go_wp2
    go_ret
    exact ⟨rfl, Below.refl _ _⟩

/-- Whether p, if there is one, comes ahead of o. -/
def aheadB (p : Option Occ) (o : Occ) : Bool := match p with | none => true | some p => lessB p.fr p.tl p.ids o.fr o.tl o.ids
/-- All are ok, each ahead of the next one. -/
def okFromO (p : Option Occ) : List Occ → Bool
  | [] => true
  | o :: r => occOkB o.fr o.tl o.ids && aheadB p o && okFromO (some o) r
def occsOkB (l : List Occ) : Bool := decide (l.length ≤ 40) && okFromO none l
theorem okFromO_step {p : Option Occ} {l : List Occ} {k : Nat} (h : k < l.length) : okFromO p (l.drop k) = (occOkB l[k].fr l[k].tl l[k].ids && aheadB p l[k] && okFromO (some l[k]) (l.drop (k + 1))) := by
  rw [List.drop_eq_getElem_cons h]; rfl
theorem okFromO_end {p : Option Occ} {l : List Occ} {k : Nat} (h : ¬ k < l.length) : okFromO p (l.drop k) = true := by
  rw [List.drop_eq_nil_of_le (by omega)]; rfl
/-- The one ahead of place k. -/
def prevO (l : List Occ) (k : Nat) : Option Occ := match k with | 0 => none | j + 1 => l[j]?
theorem prevO_succ {l : List Occ} {k : Nat} (h : k < l.length) : prevO l (k + 1) = some l[k] := by simp [prevO, h]

set_option maxHeartbeats 1000000 in
theorem implOccsOk_any (a : Option Addr) (cap : Nat) (l : List Occ) (w : World) (h : Occs w a l) :
    Calls Tryd.prog 31 #[.slice a l.length cap] w fun e w' => e = .returned (.bool (occsOkB l)) ∧ Below w.heap.size w w' := by
  have hn := h.len
  unfold maxLen at hn
  by_cases h40 : (40 : Int) < (l.length : Int)
  · have hf : occsOkB l = false := by simp [occsOkB]; intro; omega
    rw [hf]
    go_enter Tryd.func31, Tryd.ntmps31
    go_wp2
    go_ret
    exact ⟨rfl, Below.refl _ _⟩
  · have hf : Hid (occsOkB l = okFromO (prevO l 0) (l.drop 0)) := by show _ = _; simp [occsOkB, prevO]; intro; omega
    go_enter Tryd.func31, Tryd.ntmps31
    go_wp2
    go_loopw [3, 4, 10] (fun j q i wr => ∃ k : Nat, k ≤ l.length ∧ i = .int .i64 k ∧ Hid (occsOkB l = okFromO (prevO l k) (l.drop k)) ∧ Hid (∀ p, prevO l k = some p → Small p.ids) ∧ Below w.heap.size w wr) (fun _ _ i _ => l.length - (intOf i).toNat)
    case atStart => exact ⟨0, Nat.zero_le _, rfl, hf, (by show ∀ p, prevO l 0 = some p → _; intro p hp; cases hp), Below.refl _ _⟩
    case round =>
      obtain ⟨k, hk, rfl, hr, hsm, hb⟩ := hrel
      by_cases hlt : k < l.length
      · have hkk : k ≠ 0 → ∃ q : Occ, prevO l k = some q ∧ l[k - 1]? = some q := by
          intro h0
          refine ⟨l[k - 1], ?_, by simp <;> omega⟩
          have := prevO_succ (l := l) (k := k - 1) (by omega)
          rwa [Nat.sub_add_cancel (by omega)] at this
        have hprev : k ≠ 0 → ∃ q : Occ, ∃ b off p cp, a = some ⟨b, off, none⟩ ∧ prevO l k = some q ∧ wr.cell? ⟨b, off + (k - 1) * 3, none⟩ = some (.int .i64 q.fr) ∧ wr.cell? ⟨b, off + (k - 1) * 3 + 1, none⟩ = some (.int .i64 q.tl) ∧ wr.cell? ⟨b, off + (k - 1) * 3 + 2, none⟩ = some (.slice p q.ids.length cp) ∧ Ints wr p q.ids := by
          intro h0
          obtain ⟨q, hq1, hq2⟩ := hkk h0
          obtain ⟨b, off, p, cp, ha, hbl, c0, c1, c2, hids⟩ := (h.below hb).at (k := k - 1) (by omega)
          obtain rfl : l[k - 1] = q := by simpa using (List.getElem?_eq_some_iff.1 hq2).2
          exact ⟨_, b, off, p, cp, ha, hq1, c0, c1, c2, hids⟩
        clear hkk
        obtain ⟨b, off, p, cp, rfl, hbl, c0, c1, c2, hids⟩ := (h.below hb).at hlt
        have hst : Hid (okFromO (prevO l k) (l.drop k) = _) := okFromO_step hlt
        have hps : Hid (prevO l (k + 1) = _) := prevO_succ hlt
        generalize l[k] = o at c0 c1 c2 hids hst hps
        obtain ⟨w5, hw5⟩ : ∃ w5, wr.alloc (.cells #[.int .i64 o.fr, .int .i64 o.tl, .slice p o.ids.length cp] 45) = w5 := ⟨_, rfl⟩
        have hX5 := box3_new wr (.int .i64 o.fr) (.int .i64 o.tl) (.slice p o.ids.length cp) 45
        have hb5 := oBelow_new wr (.cells #[.int .i64 o.fr, .int .i64 o.tl, .slice p o.ids.length cp] 45)
        rw [hw5] at hX5 hb5
        have hbw5 : Below w.heap.size w w5 := hb.trans (hb5.mono hb.size)
        obtain ⟨x0, x1, x2⟩ := hX5.cells
        have hxl := hX5.lt
        have hok := fun (u : After w5) => calls_after (u := u) (implOccOk_any o.fr o.tl p cp o.ids u.v ((hids.below hb5).below u.h))
        have a0 := fun u : After w5 => u.cell x0 hxl
        have a1 := fun u : After w5 => u.cell x1 hxl
        have a2 := fun u : After w5 => u.cell x2 hxl
        cases hev : occOkB o.fr o.tl o.ids
        · rw [hev] at hok
          go_wp2
          have hany := after_any
          refine wp_region_after (by kernel_rfl) (by kernel_rfl) ?_
          repeat (go_big_quiet_step ((go_at_call 45; refine hok _)))
          refine wpQuiet_nil ?_
          intro w1 hu
          have hbe : Below w.heap.size w w1 := hbw5.trans ((after_of hu).mono hbw5.size)
          clear hu
          go_wp2
          go_ret
          exact ⟨ret_bool (by rw [hr.out, hst.out, hev]; rfl), hbe⟩
        · have hsm' := occOkB_small hev
          rw [hev] at hok
          have hsn : Hid (∀ p, prevO l (k + 1) = some p → Small p.ids) := by intro p hp; rw [hps.out] at hp; cases hp; exact hsm'
          by_cases hk0 : k = 0
          · have hg0 : decide (0 < k) = false := by simp; omega
            have hk1 : (k : Int) ≤ 0 := by omega
            have hp0 : Hid (prevO l k = none) := by show _ = _; rw [hk0]; rfl
            clear hk0 hprev
            go_wp2
            have hany := after_any
            refine wp_region_after (by kernel_rfl) (by kernel_rfl) ?_
            repeat (go_big_quiet_step ((go_at_call 45; refine hok _)))
            refine wpQuiet_nil ?_
            intro w1 hu
            have hbe : Below w.heap.size w w1 := hbw5.trans ((after_of hu).mono hbw5.size)
            clear hu
            go_wp2
            exact ⟨⟨k + 1, by omega, by go_num, by show _ = _; rw [hr.out, hst.out, hev, hps.out, hp0.out]; rfl, hsn, hbe⟩, by simp [intOf]; omega⟩
          · have hg0 : decide (0 < k) = true := by simp; omega
            have hk1 : (0 : Int) < (k : Int) := by omega
            obtain ⟨q, b2, off2, p2, cp2, ha2, hp0, d0, d1, d2, hids2⟩ := hprev hk0
            simp only [Option.some.injEq, Addr.mk.injEq] at ha2
            obtain ⟨rfl, rfl, _⟩ := ha2
            have hq := hsm.out q hp0
            have hlt1 : k - 1 < l.length := by omega
            have hbl5 : b < w5.heap.size := Nat.lt_of_lt_of_le hbl hb5.size
            have y0 := fun u : After w5 => u.cell ((hb5.cell hbl).trans d0) hbl5
            have y1 := fun u : After w5 => u.cell ((hb5.cell hbl).trans d1) hbl5
            have y2 := fun u : After w5 => u.cell ((hb5.cell hbl).trans d2) hbl5
            have hle := fun (u : After w5) => calls_after (u := u) (implOccLess_any q.fr q.tl p2 cp2 q.ids o.fr o.tl p cp o.ids u.v ((hids2.below hb5).below u.h) ((hids.below hb5).below u.h))
            have Hp0 : Hid (prevO l k = some q) := hp0
            clear hk0 hp0
            cases hls : lessB q.fr q.tl q.ids o.fr o.tl o.ids
            · rw [hls] at hle
              go_wp2
              have hany := after_any
              refine wp_region_after (by kernel_rfl) (by kernel_rfl) ?_
              repeat (go_big_quiet_step (first | (go_at_call 45; refine hok _) | (go_at_call 46; refine hle _)))
              refine wpQuiet_nil ?_
              intro w1 hu
              have hbe : Below w.heap.size w w1 := hbw5.trans ((after_of hu).mono hbw5.size)
              clear hu
              go_wp2
              go_ret
              exact ⟨ret_bool (by rw [hr.out, hst.out, hev, Hp0.out]; simp [aheadB, hls]), hbe⟩
            · rw [hls] at hle
              go_wp2
              have hany := after_any
              refine wp_region_after (by kernel_rfl) (by kernel_rfl) ?_
              repeat (go_big_quiet_step (first | (go_at_call 45; refine hok _) | (go_at_call 46; refine hle _)))
              refine wpQuiet_nil ?_
              intro w1 hu
              have hbe : Below w.heap.size w w1 := hbw5.trans ((after_of hu).mono hbw5.size)
              clear hu
              go_wp2
              exact ⟨⟨k + 1, by omega, by go_num, by show _ = _; rw [hr.out, hst.out, hev, hps.out, Hp0.out]; simp [aheadB, hls], hsn, hbe⟩, by simp [intOf]; omega⟩
      · go_wp2
        go_ret
        exact ⟨ret_bool (by rw [hr.out, okFromO_end hlt]), hb⟩

set_option maxHeartbeats 1000000 in
theorem specOccsOk_any (a : Option Addr) (cap : Nat) (l : List Occ) (w : World) (h : Occs w a l) :
    Calls Tryd.prog 22 #[.slice a l.length cap] w fun e w' => e = .returned (.bool (occsOkB l)) ∧ Below w.heap.size w w' := by
  have hn := h.len
  unfold maxLen at hn
  by_cases h40 : (40 : Int) < (l.length : Int)
  · have hf : occsOkB l = false := by simp [occsOkB]; intro; omega
    rw [hf]
    go_enter Tryd.func22, Tryd.ntmps22
    go_wp2
    go_ret
    exact ⟨rfl, Below.refl _ _⟩
  · have hf : Hid (occsOkB l = okFromO (prevO l 0) (l.drop 0)) := by show _ = _; simp [occsOkB, prevO]; intro; omega
    go_enter Tryd.func22, Tryd.ntmps22
    go_wp2
    go_loopw [3] (fun i wr => ∃ k : Nat, k ≤ l.length ∧ i = .int .i64 k ∧ Hid (occsOkB l = okFromO (prevO l k) (l.drop k)) ∧ Hid (∀ p, prevO l k = some p → Small p.ids) ∧ Below w.heap.size w wr) (fun i _ => l.length - (intOf i).toNat)
    case atStart => exact ⟨0, Nat.zero_le _, rfl, hf, (by show ∀ p, prevO l 0 = some p → _; intro p hp; cases hp), Below.refl _ _⟩
    case round =>
      obtain ⟨k, hk, rfl, hr, hsm, hb⟩ := hrel
      by_cases hlt : k < l.length
      · have hkk : k ≠ 0 → ∃ q : Occ, prevO l k = some q ∧ l[k - 1]? = some q := by
          intro h0
          refine ⟨l[k - 1], ?_, by simp <;> omega⟩
          have := prevO_succ (l := l) (k := k - 1) (by omega)
          rwa [Nat.sub_add_cancel (by omega)] at this
        have hprev : k ≠ 0 → ∃ q : Occ, ∃ b off p cp, a = some ⟨b, off, none⟩ ∧ prevO l k = some q ∧ wr.cell? ⟨b, off + (k - 1) * 3, none⟩ = some (.int .i64 q.fr) ∧ wr.cell? ⟨b, off + (k - 1) * 3 + 1, none⟩ = some (.int .i64 q.tl) ∧ wr.cell? ⟨b, off + (k - 1) * 3 + 2, none⟩ = some (.slice p q.ids.length cp) ∧ Ints wr p q.ids := by
          intro h0
          obtain ⟨q, hq1, hq2⟩ := hkk h0
          obtain ⟨b, off, p, cp, ha, hbl, c0, c1, c2, hids⟩ := (h.below hb).at (k := k - 1) (by omega)
          obtain rfl : l[k - 1] = q := by simpa using (List.getElem?_eq_some_iff.1 hq2).2
          exact ⟨_, b, off, p, cp, ha, hq1, c0, c1, c2, hids⟩
        clear hkk
        obtain ⟨b, off, p, cp, rfl, hbl, c0, c1, c2, hids⟩ := (h.below hb).at hlt
        have hst : Hid (okFromO (prevO l k) (l.drop k) = _) := okFromO_step hlt
        have hps : Hid (prevO l (k + 1) = _) := prevO_succ hlt
        generalize l[k] = o at c0 c1 c2 hids hst hps
        have hok := fun (u : After wr) => calls_after (u := u) (specOccOk_any o.fr o.tl p cp o.ids u.v (hids.below u.h))
        have a0 := fun u : After wr => u.cell c0 hbl
        have a1 := fun u : After wr => u.cell c1 hbl
        have a2 := fun u : After wr => u.cell c2 hbl
        cases hev : occOkB o.fr o.tl o.ids
        · rw [hev] at hok
          go_wp2
          have hany := after_any
          refine wp_region_after (by kernel_rfl) (by kernel_rfl) ?_
          repeat (go_big_quiet_step ((go_at_call 37; refine hok _)))
          refine wpQuiet_nil ?_
          intro w1 hu
          have hbe : Below w.heap.size w w1 := hb.trans ((after_of hu).mono hb.size)
          clear hu
          go_wp2
          go_ret
          exact ⟨ret_bool (by rw [hr.out, hst.out, hev]; rfl), hbe⟩
        · have hsm' := occOkB_small hev
          rw [hev] at hok
          have hsn : Hid (∀ p, prevO l (k + 1) = some p → Small p.ids) := by intro p hp; rw [hps.out] at hp; cases hp; exact hsm'
          by_cases hk0 : k = 0
          · have hg0 : decide (0 < k) = false := by simp; omega
            have hk1 : (k : Int) ≤ 0 := by omega
            have hp0 : Hid (prevO l k = none) := by show _ = _; rw [hk0]; rfl
            clear hk0 hprev
            go_wp2
            have hany := after_any
            refine wp_region_after (by kernel_rfl) (by kernel_rfl) ?_
            repeat (go_big_quiet_step ((go_at_call 37; refine hok _)))
            refine wpQuiet_nil ?_
            intro w1 hu
            have hbe : Below w.heap.size w w1 := hb.trans ((after_of hu).mono hb.size)
            clear hu
            go_wp2
            exact ⟨⟨k + 1, by omega, by go_num, by show _ = _; rw [hr.out, hst.out, hev, hps.out, hp0.out]; rfl, hsn, hbe⟩, by simp [intOf]; omega⟩
          · have hg0 : decide (0 < k) = true := by simp; omega
            have hk1 : (0 : Int) < (k : Int) := by omega
            obtain ⟨q, b2, off2, p2, cp2, ha2, hp0, d0, d1, d2, hids2⟩ := hprev hk0
            simp only [Option.some.injEq, Addr.mk.injEq] at ha2
            obtain ⟨rfl, rfl, _⟩ := ha2
            have hq := hsm.out q hp0
            have hlt1 : k - 1 < l.length := by omega
            have y0 := fun u : After wr => u.cell d0 hbl
            have y1 := fun u : After wr => u.cell d1 hbl
            have y2 := fun u : After wr => u.cell d2 hbl
            have hle := fun (u : After wr) => calls_after (u := u) (specOccLess_any q.fr q.tl p2 cp2 q.ids o.fr o.tl p cp o.ids u.v (hids2.below u.h) (hids.below u.h) hq hsm')
            have Hp0 : Hid (prevO l k = some q) := hp0
            clear hk0 hp0
            cases hls : lessB q.fr q.tl q.ids o.fr o.tl o.ids
            · rw [hls] at hle
              go_wp2
              have hany := after_any
              refine wp_region_after (by kernel_rfl) (by kernel_rfl) ?_
              repeat (go_big_quiet_step (first | (go_at_call 37; refine hok _) | (go_at_call 38; refine hle _)))
              refine wpQuiet_nil ?_
              intro w1 hu
              have hbe : Below w.heap.size w w1 := hb.trans ((after_of hu).mono hb.size)
              clear hu
              go_wp2
              go_ret
              exact ⟨ret_bool (by rw [hr.out, hst.out, hev, Hp0.out]; simp [aheadB, hls]), hbe⟩
            · rw [hls] at hle
              go_wp2
              have hany := after_any
              refine wp_region_after (by kernel_rfl) (by kernel_rfl) ?_
              repeat (go_big_quiet_step (first | (go_at_call 37; refine hok _) | (go_at_call 38; refine hle _)))
              refine wpQuiet_nil ?_
              intro w1 hu
              have hbe : Below w.heap.size w w1 := hb.trans ((after_of hu).mono hb.size)
              clear hu
              go_wp2
              exact ⟨⟨k + 1, by omega, by go_num, by show _ = _; rw [hr.out, hst.out, hev, hps.out, Hp0.out]; simp [aheadB, hls], hsn, hbe⟩, by simp [intOf]; omega⟩
      · go_wp2
        go_ret
        exact ⟨ret_bool (by rw [hr.out, okFromO_end hlt]), hb⟩
end Go.Proofs.YtlfejpakmgbpnaaDoor
