/- Both EvsText write the same text, at every list of events whose numbers an int holds. -/
import Derived.Test.YtpdboneapodkjaaDoorLetter
import Derived.Test.YtpdboneapodkjaaDoorBuilder
import Derived.Test.YtpdboneapodkjaaDoorEvs2
import Derived.Test.YtpdboneapodkjaaDoorEvsOpen
import Derived.WalkSmall
namespace Go.Proofs.YtpdboneapodkjaaDoor
open Go.ChangeShapes Go.WideShapes Go.ChangeAt Go.RowKit
set_option linter.unusedVariables false

def evText (e : Ev) : List UInt8 := letB e.sym :: (Lib.itoa e.at' ++ (if e.val = 0 then [] else 61 :: Lib.itoa e.val))
def evsText : List Ev → List UInt8
  | [] => []
  | e :: r => evText e ++ r.flatMap (fun x => 32 :: evText x)

theorem evsText_zero {l : List Ev} {k : Nat} (h : k < l.length) (h0 : ¬ 0 < k) : evsText (l.take (k + 1)) = evsText (l.take k) ++ evText l[k] := by
  obtain rfl : k = 0 := by omega
  match l, h with
  | e :: r, _ => simp [evsText]
theorem evsText_succ {l : List Ev} {k : Nat} (h : k < l.length) (h0 : 0 < k) : evsText (l.take (k + 1)) = evsText (l.take k) ++ 32 :: evText l[k] := by
  match l, h with
  | e :: r, h =>
    obtain ⟨j, rfl⟩ : ∃ j, k = j + 1 := ⟨k - 1, by omega⟩
    simp only [List.length_cons] at h
    simp only [List.take_succ_cons, evsText, List.getElem_cons_succ]
    rw [List.take_succ_eq_append_getElem (by omega), List.flatMap_append]
    simp only [List.flatMap_cons, List.flatMap_nil, List.append_nil, List.append_assoc]

theorem evText_len (e : Ev) (h : e.Wf) : (evText e).length ≤ 44 := by
  have h1 := Lib.itoa_length_le e.at' h.a0 h.a1
  have h2 := Lib.itoa_length_le e.val h.v0 h.v1
  unfold evText
  split <;> simp <;> omega
theorem evsText_len : ∀ (l : List Ev), (∀ e ∈ l, e.Wf) → (evsText l).length ≤ 45 * l.length
  | [], _ => by simp [evsText]
  | e :: r, h => by
    have h1 := evText_len e (h e (by simp))
    have h2 : ∀ (r : List Ev), (∀ e ∈ r, e.Wf) → (r.flatMap (fun x => 32 :: evText x)).length ≤ 45 * r.length := by
      intro r
      induction r with
      | nil => simp
      | cons x s ih =>
        intro hw
        have a1 := evText_len x (hw x (by simp))
        have a2 := ih (fun e he => hw e (by simp [he]))
        simp at a2 ⊢
        omega
    have h3 := h2 r (fun e he => h e (by simp [he]))
    simp [evsText] at h3 ⊢
    omega

/-- The library's table of powers is there. -/
def Tab (w : World) : Prop := Lib.TabIs Tryd.prog w "internal/strconv.uint64pow10" .u64 Lib.pow10Tab
theorem glob : Tryd.prog.globalNamed "internal/strconv.uint64pow10" = some 0 := by kernel_rfl
theorem Tab.lt {w : World} (h : Tab w) : 0 < w.heap.size := by
  unfold Tab Lib.TabIs World.var? at h
  rw [glob] at h
  simp only [Option.bind_some] at h
  rcases Nat.lt_or_ge 0 w.heap.size with h' | h'
  · exact h'
  · rw [Array.getElem?_eq_none h'] at h; simp at h
theorem Tab.below {w w' : World} {B : Nat} (h : Tab w) (hb : Below B w w') (hB : 0 < B) : Tab w' := var?_below hb glob hB h

theorem below_grow {w w' : World} (h : ∃ k os, w' = Sort.grow (w.drewN k) os) : Below w.heap.size w w' := by
  obtain ⟨k, os, rfl⟩ := h
  refine ⟨rfl, rfl, rfl, ?_, fun i hi => ?_⟩
  · show w.heap.size ≤ (w.heap ++ os).size
    rw [Array.size_append]; omega
  · show (w.heap ++ os)[i]? = w.heap[i]?
    rw [Array.getElem?_append, if_pos hi]

set_option maxHeartbeats 1000000 in
theorem specEvsText_any (a : Option Addr) (cap : Nat) (l : List Ev) (w : World) (h : Evs w a l) (hn : l.length ≤ 1048576) (hw : ∀ e ∈ l, e.Wf) :
    Calls Tryd.prog 6 #[.slice a l.length cap] w fun e w' => e = .returned (.string ⟨(evsText l).toArray⟩) ∧ Below w.heap.size w w' := by
  go_enter Tryd.func6, Tryd.ntmps6
  go_wp2
  go_loopw [3, 4] (fun s i wr => ∃ k : Nat, ∃ t : List UInt8, k ≤ l.length ∧ i = .int .i64 k ∧ s = .string ⟨t.toArray⟩ ∧ Hid (t = evsText (l.take k)) ∧ Below w.heap.size w wr) (fun _ i _ => l.length - (intOf i).toNat)
  case atStart => exact ⟨0, [], Nat.zero_le _, rfl, rfl, rfl, Below.refl _ _⟩
  case round =>
    obtain ⟨k, t, hk, rfl, rfl, hr, hb⟩ := hrel
    have htl : t.length ≤ 45 * 1048576 := by
      have := evsText_len (l.take k) (fun e he => hw e (List.mem_of_mem_take he))
      rw [hr.out]
      have : (l.take k).length ≤ l.length := List.length_take_le' _ _
      omega
    by_cases hlt : k < l.length
    · obtain ⟨b, off, rfl, hbl, hc⟩ := (h.below hb).cells (by omega)
      obtain ⟨c0, c1, c2⟩ := hc k hlt
      clear hc
      have a0 := fun u : After wr => u.cell c0 hbl
      have a1 := fun u : After wr => u.cell c1 hbl
      have hwf := hw l[k] (List.getElem_mem hlt)
      have hl1 := Lib.itoa_length_le l[k].at' hwf.a0 hwf.a1
      have hl2 := Lib.itoa_length_le l[k].val hwf.v0 hwf.v1
      by_cases hk0 : 0 < k
      · have hst : Hid (evsText (l.take (k + 1)) = evsText (l.take k) ++ 32 :: evText l[k]) := evsText_succ hlt hk0
        by_cases hv : l[k].val = 0
        · generalize l[k] = ek at c0 c1 c2 a0 a1 hst hwf hl1 hl2 hv
          have hk1 : (0 : Int) < (k : Int) := by omega
          have hvb : (ek.val != 0) = false := by simp [hv]
          have hvi : Hid (ek.val = 0) := hv
          clear hv hk0
          go_wp2
          have hany := after_any
          refine wp_region_after (by kernel_rfl) (by kernel_rfl) ?_
          repeat (go_big_quiet_step (first | (go_at_call 14; refine calls_after ((l1Letter_any _ _).mono (fun _ _ h => ⟨h.1, h.2 ▸ Below.refl _ _⟩))) | (go_at_call 15; refine calls_after (l14Dec_any _ _ hwf.a0 hwf.a1))))
          refine wpQuiet_nil ?_
          intro w1 hu
          have hb1 := after_of hu
          clear hu
          have hbe := hb.trans (hb1.mono hb.size)
          have d2 : w1.cell? ⟨b, off + k * 3 + 2, none⟩ = some (.int .i64 ek.val) := by rw [hb1.cell hbl]; exact c2
          go_wp2
          refine ⟨⟨k + 1, t ++ [32] ++ [letB ek.sym] ++ Lib.itoa ek.at', by omega, by go_num, val_str (by simp only [ba_app]), ?_, hbe⟩, by simp [intOf]; omega⟩
          show _ = evsText (l.take (k + 1))
          rw [hst.out, ← hr.out]
          simp [evText, hvi.out]
        · generalize l[k] = ek at c0 c1 c2 a0 a1 hst hwf hl1 hl2 hv
          have hk1 : (0 : Int) < (k : Int) := by omega
          have hvb : (ek.val != 0) = true := by simp [hv]
          have hvi : Hid (¬ ek.val = 0) := hv
          clear hv hk0
          go_wp2
          have hany := after_any
          refine wp_region_after (by kernel_rfl) (by kernel_rfl) ?_
          repeat (go_big_quiet_step (first | (go_at_call 14; refine calls_after ((l1Letter_any _ _).mono (fun _ _ h => ⟨h.1, h.2 ▸ Below.refl _ _⟩))) | (go_at_call 15; refine calls_after (l14Dec_any _ _ hwf.a0 hwf.a1))))
          refine wpQuiet_nil ?_
          intro w1 hu
          have hb1 := after_of hu
          clear hu
          have hbe := hb.trans (hb1.mono hb.size)
          have d2 : w1.cell? ⟨b, off + k * 3 + 2, none⟩ = some (.int .i64 ek.val) := by rw [hb1.cell hbl]; exact c2
          go_wp2_with fail
          refine (l14Dec_any _ _ hwf.v0 hwf.v1).mono ?_
          rintro e w2 ⟨rfl, hb2⟩
          have hbf := hbe.trans (hb2.mono hbe.size)
          go_wp2
          refine ⟨⟨k + 1, t ++ [32] ++ [letB ek.sym] ++ Lib.itoa ek.at' ++ [61] ++ Lib.itoa ek.val, by omega, by go_num, val_str (by simp only [ba_app]), ?_, hbf⟩, by simp [intOf]; omega⟩
          show _ = evsText (l.take (k + 1))
          rw [hst.out, ← hr.out]
          simp [evText, hvi.out]
      · have hst : Hid (evsText (l.take (k + 1)) = evsText (l.take k) ++ evText l[k]) := evsText_zero hlt hk0
        by_cases hv : l[k].val = 0
        · generalize l[k] = ek at c0 c1 c2 a0 a1 hst hwf hl1 hl2 hv
          have hk1 : ¬ (0 : Int) < (k : Int) := by omega
          have hvb : (ek.val != 0) = false := by simp [hv]
          have hvi : Hid (ek.val = 0) := hv
          clear hv hk0
          go_wp2
          have hany := after_any
          refine wp_region_after (by kernel_rfl) (by kernel_rfl) ?_
          repeat (go_big_quiet_step (first | (go_at_call 14; refine calls_after ((l1Letter_any _ _).mono (fun _ _ h => ⟨h.1, h.2 ▸ Below.refl _ _⟩))) | (go_at_call 15; refine calls_after (l14Dec_any _ _ hwf.a0 hwf.a1))))
          refine wpQuiet_nil ?_
          intro w1 hu
          have hb1 := after_of hu
          clear hu
          have hbe := hb.trans (hb1.mono hb.size)
          have d2 : w1.cell? ⟨b, off + k * 3 + 2, none⟩ = some (.int .i64 ek.val) := by rw [hb1.cell hbl]; exact c2
          go_wp2
          refine ⟨⟨k + 1, t ++ [letB ek.sym] ++ Lib.itoa ek.at', by omega, by go_num, val_str (by simp only [ba_app]), ?_, hbe⟩, by simp [intOf]; omega⟩
          show _ = evsText (l.take (k + 1))
          rw [hst.out, ← hr.out]
          simp [evText, hvi.out]
        · generalize l[k] = ek at c0 c1 c2 a0 a1 hst hwf hl1 hl2 hv
          have hk1 : ¬ (0 : Int) < (k : Int) := by omega
          have hvb : (ek.val != 0) = true := by simp [hv]
          have hvi : Hid (¬ ek.val = 0) := hv
          clear hv hk0
          go_wp2
          have hany := after_any
          refine wp_region_after (by kernel_rfl) (by kernel_rfl) ?_
          repeat (go_big_quiet_step (first | (go_at_call 14; refine calls_after ((l1Letter_any _ _).mono (fun _ _ h => ⟨h.1, h.2 ▸ Below.refl _ _⟩))) | (go_at_call 15; refine calls_after (l14Dec_any _ _ hwf.a0 hwf.a1))))
          refine wpQuiet_nil ?_
          intro w1 hu
          have hb1 := after_of hu
          clear hu
          have hbe := hb.trans (hb1.mono hb.size)
          have d2 : w1.cell? ⟨b, off + k * 3 + 2, none⟩ = some (.int .i64 ek.val) := by rw [hb1.cell hbl]; exact c2
          go_wp2_with fail
          refine (l14Dec_any _ _ hwf.v0 hwf.v1).mono ?_
          rintro e w2 ⟨rfl, hb2⟩
          have hbf := hbe.trans (hb2.mono hbe.size)
          go_wp2
          refine ⟨⟨k + 1, t ++ [letB ek.sym] ++ Lib.itoa ek.at' ++ [61] ++ Lib.itoa ek.val, by omega, by go_num, val_str (by simp only [ba_app]), ?_, hbf⟩, by simp [intOf]; omega⟩
          show _ = evsText (l.take (k + 1))
          rw [hst.out, ← hr.out]
          simp [evText, hvi.out]
    · go_wp2
      go_ret
      rw [List.take_of_length_le (by omega)] at hr
      exact ⟨ret_str (by rw [hr.out]), hb⟩
end Go.Proofs.YtpdboneapodkjaaDoor
