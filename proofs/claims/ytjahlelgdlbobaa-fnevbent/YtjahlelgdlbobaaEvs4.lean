/- Both EvsTill answer the events up to a time, in memory of their own. -/
import Derived.Test.YtjahlelgdlbobaaEvsOwn
import Derived.OwnWalk
namespace Go.Proofs.Ytjahlelgdlbobaa
open Go.ChangeShapes Go.WideShapes Go.ChangeAt Go.RowKit
set_option linter.unusedVariables false

def till (l : List Ev) (t : Int) : List Ev := l.filter fun e => decide (e.at' ≤ t)
theorem till_le (l : List Ev) (t : Int) : (till l t).length ≤ l.length := List.length_filter_le _ _
theorem till_yes {l : List Ev} {t : Int} {k : Nat} (h : k < l.length) (hc : l[k].at' ≤ t) : till (l.take (k + 1)) t = till (l.take k) t ++ [l[k]] := by
  unfold till; rw [List.take_succ_eq_append_getElem h, List.filter_append]; simp only [List.filter_cons, hc, decide_true, if_true, List.filter_nil]
theorem till_no {l : List Ev} {t : Int} {k : Nat} (h : k < l.length) (hc : ¬ l[k].at' ≤ t) : till (l.take (k + 1)) t = till (l.take k) t := by
  unfold till; rw [List.take_succ_eq_append_getElem h, List.filter_append]; simp only [List.filter_cons, hc, decide_false, Bool.false_eq_true, if_false, List.filter_nil, List.append_nil]

theorem info_ev_parts : ∃ i, Try.prog.info? 30 = some i ∧ i.zero = some (.agg #[.int .i64 0, .int .i64 0, .int .i64 0]) ∧ i.size = 3 ∧ i.bytes = 24 := by
  have hi := info_ev
  cases h : Try.prog.info? 30 with
  | none => rw [h] at hi; simp at hi
  | some i => rw [h] at hi; simp at hi; exact ⟨i, rfl, hi⟩

theorem new_ev (w : World) (e : Ev) (t : TypeId) : ∀ j u, ([.int .i64 e.sym, .int .i64 e.at', .int .i64 e.val] : List Value)[j]? = some u → (w.alloc (.cells #[.int .i64 e.sym, .int .i64 e.at', .int .i64 e.val] t)).cell? ((⟨w.heap.size, 0, none⟩ : Addr).add j) = some u := by
  intro j u hj
  match j, hj with
  | 0, hj => simp at hj; subst hj; simp [Addr.add]
  | 1, hj => simp at hj; subst hj; simp [Addr.add]
  | 2, hj => simp at hj; subst hj; simp [Addr.add]

set_option maxHeartbeats 400000 in
theorem implEvsTill_any (a : Option Addr) (cap : Nat) (l : List Ev) (t : Int) (w : World) (h : Evs w a l) (hn : l.length ≤ 1048576) :
    Calls Try.prog 13 #[.slice a l.length cap, .int .i64 t] w fun e w' => ∃ v, e = .returned v ∧ w'.ownsRow w.heap.size 30 3 v (till l t).length (evCells (till l t)) ∧ Below w.heap.size w w' := by
  obtain ⟨i0, hi, hz0, hz1, hz2⟩ := info_ev_parts
  go_enter Try.func13, Try.ntmps13
  go_wp2
  go_loopw [5, 7, 10] (fun v p i wr => ∃ k : Nat, k ≤ l.length ∧ i = .int .i64 k ∧ wr.ownsRow w.heap.size 30 3 v (till (l.take k) t).length (evCells (till (l.take k) t)) ∧ Below w.heap.size w wr) (fun _ _ i _ => l.length - (intOf i).toNat)
  case atStart => exact ⟨0, Nat.zero_le _, rfl, World.ownsRow_nil _ _ _ _, Below.refl _ _⟩
  case round =>
    obtain ⟨k, hk, rfl, hown, hb⟩ := hrel
    by_cases hlt : k < l.length
    · obtain ⟨b, off, rfl, hbl, hc⟩ := (h.below hb).cells (by omega)
      obtain ⟨c0, c1, c2⟩ := hc k hlt
      clear hc
      by_cases hat : l[k].at' ≤ t
      · have hy : Hid (till (l.take (k + 1)) t = till (l.take k) t ++ [l[k]]) := till_yes hlt hat
        have hle := till_le (l.take k) t
        have hlk : (l.take k).length ≤ k := List.length_take_le _ _
        generalize l[k] = ek at c0 c1 c2 hat hy
        go_wp2_with (at_builtin; refine wpList_append_own _ rfl _ _ 23 rfl w.heap.size 30 i0 (.agg #[.int .i64 0, .int .i64 0, .int .i64 0]) 3 24 Try.underlying23 hi hz0 hz1 hz2 rfl (by decide) _ _ _ rfl ((hown.alloc _).alloc _) ⟨wr.heap.size + 1, 0, none⟩ 1 1 [.int .i64 ek.sym, .int .i64 ek.at', .int .i64 ek.val] rfl rfl ?c1 ?c2 ?c3 ?c4 ?c5 ?_)
        case c1 => simpa using new_ev (wr.alloc _) ek 30
        case c2 => intro u hu; simp at hu; rcases hu with rfl | rfl | rfl <;> rfl
        case c3 => unfold maxLen; omega
        case c4 => omega
        case c5 => have := hb.size; simp; omega
        intro v' w1 hown' hgr _
        have hbe : Below w.heap.size w w1 := ((hb.alloc hb.size _).alloc (by have := hb.size; simp; omega) _).grown hgr (by have := hb.size; simp; omega) (fun x hx => (hown.lt x hx).1)
        go_wp2
        refine ⟨⟨k + 1, by omega, by go_num, ?_, hbe⟩, by simp [intOf]; omega⟩
        rw [hy.out, evCells_snoc, List.length_append]
        exact hown'
      · have hy : Hid (till (l.take (k + 1)) t = till (l.take k) t) := till_no hlt hat
        generalize l[k] = ek at c0 c1 c2 hat
        go_wp2
        refine ⟨⟨k + 1, by omega, by go_num, ?_, hb.alloc hb.size _⟩, by simp [intOf]; omega⟩
        rw [hy.out]
        exact hown.alloc _
    · go_wp2
      go_ret
      rw [List.take_of_length_le (by omega)] at hown
      exact ⟨_, rfl, hown, hb⟩

set_option maxHeartbeats 400000 in
theorem specEvsTill_any (a : Option Addr) (cap : Nat) (l : List Ev) (t : Int) (w : World) (h : Evs w a l) (hn : l.length ≤ 1048576) :
    Calls Try.prog 14 #[.slice a l.length cap, .int .i64 t] w fun e w' => ∃ v, e = .returned v ∧ w'.ownsRow w.heap.size 30 3 v (till l t).length (evCells (till l t)) ∧ Below w.heap.size w w' := by
  obtain ⟨i0, hi, hz0, hz1, hz2⟩ := info_ev_parts
  go_enter Try.func14, Try.ntmps14
  go_wp2
  go_loopw [5, 6] (fun v i wr => ∃ k : Nat, k ≤ l.length ∧ i = .int .i64 k ∧ wr.ownsRow w.heap.size 30 3 v (till (l.take k) t).length (evCells (till (l.take k) t)) ∧ Below w.heap.size w wr) (fun _ i _ => l.length - (intOf i).toNat)
  case atStart => exact ⟨0, Nat.zero_le _, rfl, World.ownsRow_made _ _ _ (Nat.le_refl _) (by simp [maxLen]) rfl, (Below.refl _ _).alloc (Nat.le_refl _) _⟩
  case round =>
    obtain ⟨k, hk, rfl, hown, hb⟩ := hrel
    by_cases hlt : k < l.length
    · obtain ⟨b, off, rfl, hbl, hc⟩ := (h.below hb).cells (by omega)
      obtain ⟨c0, c1, c2⟩ := hc k hlt
      clear hc
      by_cases hat : l[k].at' ≤ t
      · have hy : Hid (till (l.take (k + 1)) t = till (l.take k) t ++ [l[k]]) := till_yes hlt hat
        have hle := till_le (l.take k) t
        have hlk : (l.take k).length ≤ k := List.length_take_le _ _
        generalize l[k] = ek at c0 c1 c2 hat hy
        go_wp2_with (at_builtin; refine wpList_append_own _ rfl _ _ 23 rfl w.heap.size 30 i0 (.agg #[.int .i64 0, .int .i64 0, .int .i64 0]) 3 24 Try.underlying23 hi hz0 hz1 hz2 rfl (by decide) _ _ _ rfl (hown.alloc _) ⟨wr.heap.size, 0, none⟩ 1 1 [.int .i64 ek.sym, .int .i64 ek.at', .int .i64 ek.val] rfl rfl ?c1 ?c2 ?c3 ?c4 ?c5 ?_)
        case c1 => exact new_ev wr ek 30
        case c2 => intro u hu; simp at hu; rcases hu with rfl | rfl | rfl <;> rfl
        case c3 => unfold maxLen; omega
        case c4 => omega
        case c5 => have := hb.size; simp; omega
        intro v' w1 hown' hgr _
        have hbe : Below w.heap.size w w1 := (hb.alloc hb.size _).grown hgr (by have := hb.size; simp; omega) (fun x hx => (hown.lt x hx).1)
        go_wp2
        refine ⟨⟨k + 1, by omega, by go_num, ?_, hbe⟩, by simp [intOf]; omega⟩
        rw [hy.out, evCells_snoc, List.length_append]
        exact hown'
      · have hy : Hid (till (l.take (k + 1)) t = till (l.take k) t) := till_no hlt hat
        generalize l[k] = ek at c0 c1 c2 hat
        go_wp2
        refine ⟨⟨k + 1, by omega, by go_num, ?_, hb⟩, by simp [intOf]; omega⟩
        rw [hy.out]
        exact hown
    · go_wp2
      go_ret
      rw [List.take_of_length_le (by omega)] at hown
      exact ⟨_, rfl, hown, hb⟩
end Go.Proofs.Ytjahlelgdlbobaa
