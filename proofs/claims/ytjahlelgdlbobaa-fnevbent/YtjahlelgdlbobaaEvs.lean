/- What the functions on a list of events answer: the copy, the comparison, both EvsOk. -/
import Derived.Test.YtjahlelgdlbobaaEv
import Derived.BigQuiet
import Derived.Deep.QuietTactic
import Derived.Deep.RegionWith
import Derived.Outline
import Derived.Deep.Light
namespace Go.Proofs.Ytjahlelgdlbobaa
open Go.ChangeShapes Go.WideShapes Go.ChangeAt Go.RowKit
set_option linter.unusedVariables false

/-- The slice whose address is a holds the events l. -/
structure Evs (w : World) (a : Option Addr) (l : List Ev) : Prop where
  len : l.length ≤ maxLen
  cells : 0 < l.length → ∃ b off, a = some ⟨b, off, none⟩ ∧ b < w.heap.size ∧ ∀ i (h : i < l.length),
    w.cell? ⟨b, off + i * 3, none⟩ = some (.int .i64 l[i].sym) ∧ w.cell? ⟨b, off + i * 3 + 1, none⟩ = some (.int .i64 l[i].at') ∧ w.cell? ⟨b, off + i * 3 + 2, none⟩ = some (.int .i64 l[i].val)

theorem Evs.below {w w' : World} {a : Option Addr} {l : List Ev} (h : Evs w a l) (hb : Below w.heap.size w w') : Evs w' a l := by
  refine ⟨h.len, fun hl => ?_⟩
  obtain ⟨b, off, rfl, hlt, hc⟩ := h.cells hl
  refine ⟨b, off, rfl, Nat.lt_of_lt_of_le hlt hb.size, fun i hi => ?_⟩
  obtain ⟨h1, h2, h3⟩ := hc i hi
  exact ⟨by rw [hb.cell hlt]; exact h1, by rw [hb.cell hlt]; exact h2, by rw [hb.cell hlt]; exact h3⟩

def evEqB (x y : Ev) : Bool := decide (x.sym = y.sym ∧ x.at' = y.at' ∧ x.val = y.val)
theorem evEqB_iff (x y : Ev) : evEqB x y = true ↔ x = y := by cases x; cases y; simp [evEqB]

/-- All are ok, each later than the one ahead of it. -/
def okFrom (last : Int) : List Ev → Bool
  | [] => true
  | e :: r => evOkB e.sym e.at' e.val && decide (last < e.at') && okFrom e.at' r
def evsOkB (l : List Ev) : Bool := decide (l.length ≤ 24) && okFrom 0 l

theorem okFrom_step {last : Int} {l : List Ev} {k : Nat} (h : k < l.length) : okFrom last (l.drop k) = (evOkB l[k].sym l[k].at' l[k].val && decide (last < l[k].at') && okFrom l[k].at' (l.drop (k + 1))) := by
  rw [List.drop_eq_getElem_cons h]; rfl
theorem okFrom_end {last : Int} {l : List Ev} {k : Nat} (h : ¬ k < l.length) : okFrom last (l.drop k) = true := by
  rw [List.drop_eq_nil_of_le (by omega)]; rfl

set_option maxHeartbeats 400000 in
theorem implEvsOk_any (a : Option Addr) (cap : Nat) (l : List Ev) (w : World) (h : Evs w a l) :
    Calls Try.prog 7 #[.slice a l.length cap] w fun e w' => e = .returned (.bool (evsOkB l)) ∧ Below w.heap.size w w' := by
  have hn := h.len
  unfold maxLen at hn
  by_cases h24 : (24 : Int) < (l.length : Int)
  · have hf : evsOkB l = false := by simp [evsOkB]; intro; omega
    rw [hf]
    go_enter Try.func7, Try.ntmps7
    go_wp2
    go_ret
    exact ⟨rfl, Below.refl _ _⟩
  · have hf : Hid (evsOkB l = okFrom 0 (l.drop 0)) := by show _ = _; simp [evsOkB]; intro; omega
    go_enter Try.func7, Try.ntmps7
    go_wp2
    go_loopw [3, 5, 11] (fun last p i wr => ∃ k : Nat, ∃ la : Int, k ≤ l.length ∧ i = .int .i64 k ∧ last = .int .i64 la ∧ Hid (evsOkB l = okFrom la (l.drop k)) ∧ Below w.heap.size w wr) (fun _ _ i _ => l.length - (intOf i).toNat)
    case atStart => exact ⟨0, 0, Nat.zero_le _, rfl, rfl, hf, Below.refl _ _⟩
    case round =>
      obtain ⟨k, la, hk, rfl, rfl, hr, hb⟩ := hrel
      by_cases hlt : k < l.length
      · obtain ⟨b, off, rfl, hbl, hc⟩ := (h.below hb).cells (by omega)
        obtain ⟨c0, c1, c2⟩ := hc k hlt
        clear hc
        have hst : Hid (okFrom la (l.drop k) = _) := okFrom_step hlt
        generalize l[k] = ek at c0 c1 c2 hst
        go_wp2_with fail
        refine (implEvOk_any _ _ _ _).mono ?_
        rintro e w1 ⟨rfl, hb1⟩
        have d1 := hb1.cell (p := ⟨wr.heap.size, 1, none⟩) (by simp)
        have hbe : Below w.heap.size w w1 := (hb.alloc hb.size _).trans (hb1.mono (by simp; have := hb.size; omega))
        cases hev : evOkB ek.sym ek.at' ek.val
        · go_wp2
          go_ret
          exact ⟨ret_bool (by rw [hr.out, hst.out, hev]; rfl), hbe⟩
        · by_cases hla : ek.at' ≤ la
          · go_wp2
            go_ret
            exact ⟨ret_bool (by rw [hr.out, hst.out, decide_eq_false (show ¬ la < ek.at' by omega)]; simp), hbe⟩
          · go_wp2
            refine ⟨⟨k + 1, ek.at', by omega, by go_num, rfl, ?_, hbe⟩, by simp [intOf]; omega⟩
            show evsOkB l = _
            rw [hr.out, hst.out, hev, decide_eq_true (show la < ek.at' by omega)]; rfl
      · go_wp2
        go_ret
        exact ⟨ret_bool (by rw [hr.out, okFrom_end hlt]), hb⟩
end Go.Proofs.Ytjahlelgdlbobaa
