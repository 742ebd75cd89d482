/- Both EvsSame answer whether two lists of events are one. -/
import Derived.Test.YthlddehmebgfoaaEvs2
import Derived.WalkLawsBesides
import Derived.Laws.StructEq
namespace Go.Proofs.Ythlddehmebgfoaa
open Go.ChangeShapes Go.WideShapes Go.ChangeAt Go.RowKit
set_option linter.unusedVariables false

theorem guard_ev : Try.prog.eqGuardType Try.prog.depth 86 = false := by kernel_rfl
theorem stood_ev : Try.prog.stoodInHeld 86 = false := by kernel_rfl

theorem neq_ev (x y : Ev) (w : World) :
    (binOp .neq 86 (.agg #[.int .i64 x.sym, .int .i64 x.at', .int .i64 x.val]) (.agg #[.int .i64 y.sym, .int .i64 y.at', .int .i64 y.val])).run Try.prog w = .ok (.bool (!evEqB x y)) w := by
  have hu : Try.prog.underlying 86 = some (.struct (Try.prog.fieldsOf 86)) := by simp [Program.fieldsOf, Try.underlying86]
  rw [run_neq_struct, run_equalIn_agg _ 9999 _ _ _ hu stood_ev]
  have k1 : Try.prog.cellsOf 3 = 1 := by kernel_rfl
  simp [Program.fieldsOf, Try.underlying86, Op.eqFields, go_sem, Try.underlying3]
  unfold evEqB
  repeat' split
  all_goals simp_all

set_option maxHeartbeats 400000 in
theorem specEvsSame_any (a a' : Option Addr) (cap cap' : Nat) (l l' : List Ev) (w : World) (h : Evs w a l) (h' : Evs w a' l') :
    Calls Try.prog 15 #[.slice a l.length cap, .slice a' l'.length cap'] w fun e w' => e = .returned (.bool (evsEqB l l')) ∧ Below w.heap.size w w' := by
  have hn := h.len
  have hn' := h'.len
  unfold maxLen at hn hn'
  by_cases hne : l.length = l'.length
  · have hf : Hid (evsEqB l l' = evsEqB (l.drop 0) (l'.drop 0)) := rfl
    have hnb : ((l.length : Int) != (l'.length : Int)) = false := by simp [hne]
    have Hne : Hid (l.length = l'.length) := hne
    have hle : l.length ≤ l'.length := by omega
    clear hne
    have hgd := guard_ev
    have hnq := neq_ev
    go_enter Try.func15, Try.ntmps15
    go_wp2
    go_loopw [5] (fun i wr => ∃ k : Nat, k ≤ l.length ∧ i = .int .i64 k ∧ Hid (evsEqB l l' = evsEqB (l.drop k) (l'.drop k)) ∧ Below w.heap.size w wr) (fun i _ => l.length - (intOf i).toNat)
    case atStart => exact ⟨0, Nat.zero_le _, rfl, hf, Below.refl _ _⟩
    case round =>
      obtain ⟨k, hk, rfl, hr, hb⟩ := hrel
      by_cases hlt : k < l.length
      · obtain ⟨b, off, rfl, hbl, hc⟩ := (h.below hb).cells (by omega)
        obtain ⟨c0, c1, c2⟩ := hc k hlt
        obtain ⟨b', off', rfl, hbl', hc'⟩ := (h'.below hb).cells (by omega)
        obtain ⟨d0, d1, d2⟩ := hc' k (by omega)
        clear hc hc'
        have hst : Hid (evsEqB (l.drop k) (l'.drop k) = _) := evsEqB_step hlt (show k < l'.length by omega)
        have hlt' : k < l'.length := by omega
        generalize l[k] = ek at c0 c1 c2 hst
        generalize l'[k] = ek' at d0 d1 d2 hst
        cases hev : evEqB ek ek'
        · go_wp2
          go_quiet (fail)
          have hbe : Below w.heap.size w (wr.drewN nq) := below_drewN hb nq
          go_wp2
          go_ret
          exact ⟨ret_bool (by rw [hr.out, hst.out, hev]; rfl), hbe⟩
        · go_wp2
          go_quiet (fail)
          have hbe : Below w.heap.size w (wr.drewN nq) := below_drewN hb nq
          go_wp2
          exact ⟨⟨k + 1, by omega, by go_num, by show _ = _; rw [hr.out, hst.out, hev]; rfl, hbe⟩, by simp [intOf]; omega⟩
      · go_wp2
        go_ret
        exact ⟨ret_bool (by rw [hr.out, evsEqB_end hlt Hne.out]), hb⟩
  · rw [evsEqB_len hne]
    have hnb : ((l.length : Int) != (l'.length : Int)) = true := by simp; omega
    go_enter Try.func15, Try.ntmps15
    go_wp2
    go_ret
    exact ⟨rfl, Below.refl _ _⟩
set_option maxHeartbeats 400000 in
theorem slicesEqual_any (a a' : Option Addr) (cap cap' : Nat) (l l' : List Ev) (w : World) (h : Evs w a l) (h' : Evs w a' l') :
    Calls Try.prog 49 #[.slice a l.length cap, .slice a' l'.length cap'] w fun e w' => e = .returned (.bool (evsEqB l l')) ∧ Below w.heap.size w w' := by
  have hn := h.len
  have hn' := h'.len
  unfold maxLen at hn hn'
  by_cases hne : l.length = l'.length
  · have hf : Hid (evsEqB l l' = evsEqB (l.drop 0) (l'.drop 0)) := rfl
    have hnb : ((l.length : Int) != (l'.length : Int)) = false := by simp [hne]
    have Hne : Hid (l.length = l'.length) := hne
    have hle : l.length ≤ l'.length := by omega
    clear hne
    have hgd := guard_ev
    have hnq := neq_ev
    go_enter Try.func49, Try.ntmps49
    go_wp2
    go_loopw [5, 13] (fun _ i wr => ∃ k : Nat, k ≤ l.length ∧ i = .int .i64 k ∧ Hid (evsEqB l l' = evsEqB (l.drop k) (l'.drop k)) ∧ Below w.heap.size w wr) (fun _ i _ => l.length - (intOf i).toNat)
    case atStart => exact ⟨0, Nat.zero_le _, rfl, hf, Below.refl _ _⟩
    case round =>
      obtain ⟨k, hk, rfl, hr, hb⟩ := hrel
      by_cases hlt : k < l.length
      · obtain ⟨b, off, rfl, hbl, hc⟩ := (h.below hb).cells (by omega)
        obtain ⟨c0, c1, c2⟩ := hc k hlt
        obtain ⟨b', off', rfl, hbl', hc'⟩ := (h'.below hb).cells (by omega)
        obtain ⟨d0, d1, d2⟩ := hc' k (by omega)
        clear hc hc'
        have hst : Hid (evsEqB (l.drop k) (l'.drop k) = _) := evsEqB_step hlt (show k < l'.length by omega)
        have hlt' : k < l'.length := by omega
        generalize l[k] = ek at c0 c1 c2 hst
        generalize l'[k] = ek' at d0 d1 d2 hst
        cases hev : evEqB ek ek'
        · go_wp2
          go_quiet (fail)
          have hbe : Below w.heap.size w (wr.drewN nq) := below_drewN hb nq
          go_wp2
          go_ret
          exact ⟨ret_bool (by rw [hr.out, hst.out, hev]; rfl), hbe⟩
        · go_wp2
          go_quiet (fail)
          have hbe : Below w.heap.size w (wr.drewN nq) := below_drewN hb nq
          go_wp2
          exact ⟨⟨k + 1, by omega, by go_num, by show _ = _; rw [hr.out, hst.out, hev]; rfl, hbe⟩, by simp [intOf]; omega⟩
      · go_wp2
        go_ret
        exact ⟨ret_bool (by rw [hr.out, evsEqB_end hlt Hne.out]), hb⟩
  · rw [evsEqB_len hne]
    have hnb : ((l.length : Int) != (l'.length : Int)) = true := by simp; omega
    go_enter Try.func49, Try.ntmps49
    go_wp2
    go_ret
    exact ⟨rfl, Below.refl _ _⟩
set_option maxHeartbeats 400000 in
theorem implEvsSame_any (a a' : Option Addr) (cap cap' : Nat) (l l' : List Ev) (w : World) (h : Evs w a l) (h' : Evs w a' l') :
    Calls Try.prog 26 #[.slice a l.length cap, .slice a' l'.length cap'] w fun e w' => e = .returned (.bool (evsEqB l l')) ∧ Below w.heap.size w w' := by
  go_enter Try.func26, Try.ntmps26
  go_wp2_with fail
  refine (slicesEqual_any _ _ _ _ l l' _ h h').mono ?_
  rintro e w1 ⟨rfl, hb⟩
  go_wp2
  go_ret
  exact ⟨rfl, hb⟩
end Go.Proofs.Ythlddehmebgfoaa
