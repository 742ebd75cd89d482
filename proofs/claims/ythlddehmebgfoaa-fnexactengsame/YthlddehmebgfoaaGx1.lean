/- How many graphs, and how much that followed: the laws' own counts. -/
import Derived.Test.YthlddehmebgfoaaGx
namespace Go.Proofs.Ythlddehmebgfoaa
open Go.ChangeShapes Go.WideShapes Go.ChangeAt Go.RowKit Go.Deep
set_option linter.unusedVariables false
set_option maxRecDepth 4000

def gxsTotal : List Gx → Nat
  | [] => 0
  | x :: r => ndsSize x.l + gxsTotal r
theorem gxsTotal_step {l : List Gx} {k : Nat} (h : k < l.length) : gxsTotal (l.drop k) = ndsSize l[k].l + gxsTotal (l.drop (k + 1)) := by rw [List.drop_eq_getElem_cons h]; rfl
theorem gxsTotal_end {l : List Gx} {k : Nat} (h : ¬ k < l.length) : gxsTotal (l.drop k) = 0 := by rw [List.drop_eq_nil_of_le (by omega)]; rfl
theorem gxsTotal_get : ∀ {l : List Gx} {k : Nat} (h : k < l.length), ndsSize l[k].l ≤ gxsTotal l
  | x :: r, 0, _ => by simp [gxsTotal]
  | x :: r, k + 1, h => by have := gxsTotal_get (l := r) (k := k) (by simpa using h); simp [gxsTotal]; omega
def gxsSize (l : List Gx) : Nat := l.length + gxsTotal l

set_option maxHeartbeats 1000000 in
theorem szGraphS_any (a : Option Addr) (cap : Nat) (l : List Gx) (left : Int) (w : World) (h : Gxs w a l) (h0 : 0 ≤ left) (h1 : left ≤ 1048576) :
    Calls Try.prog 10 #[.slice a l.length cap, .int .i64 left] w fun e w' => e = .returned (.int .i64 (szDown left (gxsSize l))) ∧ Below w.heap.size w w' := by
  have hn := h.len
  unfold maxLen at hn
  have hse : gxsSize l = l.length + gxsTotal l := rfl
  by_cases hl : left - l.length < 0
  · have hz : szDown left (gxsSize l) = -1 := if_pos (by omega)
    rw [hz]
    clear hse
    go_enter Try.func10, Try.ntmps10
    go_wp2
    go_ret
    exact ⟨rfl, Below.refl _ _⟩
  · obtain ⟨G, hG⟩ : ∃ G, szDown left (gxsSize l) = G := ⟨_, rfl⟩
    rw [hG]
    have hse' : Hid (gxsSize l = l.length + gxsTotal l) := hse
    have HG : Hid (szDown left (gxsSize l) = G) := hG
    clear hse hG
    go_enter Try.func10, Try.ntmps10
    go_wp2
    go_loopw [1, 5] (fun c i wr => ∃ k : Nat, ∃ cur : Int, k ≤ l.length ∧ i = .int .i64 k ∧ c = .int .i64 cur ∧ 0 ≤ cur ∧ cur ≤ 1048576 ∧ Hid (cur - (gxsTotal (l.drop k) : Int) = left - gxsSize l) ∧ Below w.heap.size w wr) (fun _ i _ => l.length - (intOf i).toNat)
    case atStart => exact ⟨0, _, Nat.zero_le _, rfl, rfl, by omega, by omega, by show _ = _; have := hse'.out; rw [List.drop_zero]; omega, Below.refl _ _⟩
    case round =>
      obtain ⟨k, cur, hk, rfl, rfl, hc0, hc1, hr, hb⟩ := hrel
      by_cases hlt : k < l.length
      · obtain ⟨b, off, p, pc, rfl, hbl, ht, hids⟩ := (h.below hb).at hlt
        have hin : Hid (gxsTotal (l.drop k) = _) := gxsTotal_step hlt
        generalize l[k] = o at ht hids hin
        obtain ⟨q0, q1, q2, q3, q4⟩ := ht
        by_cases hneg : cur - ndsSize o.l < 0
        · have hz : szDown cur (ndsSize o.l) = -1 := if_pos hneg
          have hz' : Hid (szDown left (gxsSize l) = -1) := by
            show _ = _
            have := hr.out; have := hin.out
            exact if_pos (by omega)
          go_wp2_with fail
          refine (szGraph_any o.m p pc o.l o.se o.nw o.fu cur _ hids hc0 hc1).mono ?_
          rintro e w1 ⟨rfl, hb1⟩
          rw [hz]
          go_wp2
          go_ret
          exact ⟨by rw [← HG.out, hz'.out]; rfl, hb.trans (hb1.mono hb.size)⟩
        · have hz : szDown cur (ndsSize o.l) = cur - ndsSize o.l := if_neg hneg
          have hge : ¬ (cur - (ndsSize o.l : Int) < 0) := hneg
          go_wp2_with fail
          refine (szGraph_any o.m p pc o.l o.se o.nw o.fu cur _ hids hc0 hc1).mono ?_
          rintro e w1 ⟨rfl, hb1⟩
          rw [hz]
          go_wp2
          refine ⟨⟨k + 1, _, by omega, by go_num, rfl, by omega, by omega, ?_, hb.trans (hb1.mono hb.size)⟩, by simp [intOf]; omega⟩
          show _ = _
          have := hr.out; have := hin.out
          omega
      · have hz' : Hid (szDown left (gxsSize l) = cur) := by
          show _ = _
          have := hr.out
          rw [gxsTotal_end hlt] at this
          unfold szDown
          rw [if_neg (by omega)]; omega
        go_wp2
        go_ret
        exact ⟨by rw [← HG.out, hz'.out]; rfl, hb⟩

def fxsTotal : List Fx → Nat
  | [] => 0
  | x :: r => x.oc.ids.length + fxsTotal r
theorem fxsTotal_step {l : List Fx} {k : Nat} (h : k < l.length) : fxsTotal (l.drop k) = l[k].oc.ids.length + fxsTotal (l.drop (k + 1)) := by rw [List.drop_eq_getElem_cons h]; rfl
theorem fxsTotal_end {l : List Fx} {k : Nat} (h : ¬ k < l.length) : fxsTotal (l.drop k) = 0 := by rw [List.drop_eq_nil_of_le (by omega)]; rfl
theorem fxsTotal_get : ∀ {l : List Fx} {k : Nat} (h : k < l.length), l[k].oc.ids.length ≤ fxsTotal l
  | x :: r, 0, _ => by simp [fxsTotal]
  | x :: r, k + 1, h => by have := fxsTotal_get (l := r) (k := k) (by simpa using h); simp [fxsTotal]; omega
def fxsSize (l : List Fx) : Nat := l.length + fxsTotal l

set_option maxHeartbeats 400000 in
theorem szFire_any (x : Fx) (a : Option Addr) (c : Nat) (left : Int) (w : World) (hn : x.oc.ids.length ≤ maxLen) (h0 : 0 ≤ left) (h1 : left ≤ 1048576) :
    Calls Try.prog 37 #[fxV x a c, .int .i64 left] w fun e w' => e = .returned (.int .i64 (szDown left x.oc.ids.length)) ∧ Below w.heap.size w w' := by
  obtain ⟨w0, hw0⟩ : ∃ w0, w.alloc (.cells (fxC x a c) 78) = w0 := ⟨_, rfl⟩
  have hA0 := bx_new w (fxC x a c) 78
  have b0 := oBelow_new w (.cells (fxC x a c) 78)
  rw [hw0] at hA0 b0
  obtain ⟨q0, q1, q2, q3⟩ := hA0.fourF
  simp only [Nat.zero_add] at q0 q1 q2 q3
  unfold fxV
  unfold fxC at hw0 ⊢
  by_cases hneg : left - x.oc.ids.length < 0
  · have hz : szDown left x.oc.ids.length = -1 := if_pos hneg
    rw [hz]
    go_enter Try.func37, Try.ntmps37
    go_wp2_with fail
    refine (szOcc_any _ _ a _ c left _ hn h0 h1).mono ?_
    rintro e w1 ⟨rfl, hb1⟩
    rw [hz]
    go_wp2
    go_ret
    exact ⟨rfl, b0.trans (hb1.mono b0.size)⟩
  · have hz : szDown left x.oc.ids.length = left - x.oc.ids.length := if_neg hneg
    have hge : ¬ (left - (x.oc.ids.length : Int) < 0) := hneg
    rw [hz]
    go_enter Try.func37, Try.ntmps37
    go_wp2_with fail
    refine (szOcc_any _ _ a _ c left _ hn h0 h1).mono ?_
    rintro e w1 ⟨rfl, hb1⟩
    rw [hz]
    go_wp2
    go_ret
    exact ⟨rfl, b0.trans (hb1.mono b0.size)⟩

set_option maxHeartbeats 1000000 in
theorem szFireS_any (a : Option Addr) (cap : Nat) (l : List Fx) (left : Int) (w : World) (h : Fxs w a l) (h0 : 0 ≤ left) (h1 : left ≤ 1048576) :
    Calls Try.prog 13 #[.slice a l.length cap, .int .i64 left] w fun e w' => e = .returned (.int .i64 (szDown left (fxsSize l))) ∧ Below w.heap.size w w' := by
  have hn := h.len
  unfold maxLen at hn
  have hse : fxsSize l = l.length + fxsTotal l := rfl
  by_cases hl : left - l.length < 0
  · have hz : szDown left (fxsSize l) = -1 := if_pos (by omega)
    rw [hz]
    clear hse
    go_enter Try.func13, Try.ntmps13
    go_wp2
    go_ret
    exact ⟨rfl, Below.refl _ _⟩
  · obtain ⟨G, hG⟩ : ∃ G, szDown left (fxsSize l) = G := ⟨_, rfl⟩
    rw [hG]
    have hse' : Hid (fxsSize l = l.length + fxsTotal l) := hse
    have HG : Hid (szDown left (fxsSize l) = G) := hG
    clear hse hG
    go_enter Try.func13, Try.ntmps13
    go_wp2
    go_loopw [1, 5] (fun c i wr => ∃ k : Nat, ∃ cur : Int, k ≤ l.length ∧ i = .int .i64 k ∧ c = .int .i64 cur ∧ 0 ≤ cur ∧ cur ≤ 1048576 ∧ Hid (cur - (fxsTotal (l.drop k) : Int) = left - fxsSize l) ∧ Below w.heap.size w wr) (fun _ i _ => l.length - (intOf i).toNat)
    case atStart => exact ⟨0, _, Nat.zero_le _, rfl, rfl, by omega, by omega, by show _ = _; have := hse'.out; rw [List.drop_zero]; omega, Below.refl _ _⟩
    case round =>
      obtain ⟨k, cur, hk, rfl, rfl, hc0, hc1, hr, hb⟩ := hrel
      by_cases hlt : k < l.length
      · obtain ⟨b, off, p, pc, rfl, hbl, ht, hids⟩ := (h.below hb).at hlt
        have hin : Hid (fxsTotal (l.drop k) = _) := fxsTotal_step hlt
        generalize l[k] = o at ht hids hin
        obtain ⟨q0, q1, q2, q3⟩ := ht
        by_cases hneg : cur - o.oc.ids.length < 0
        · have hz : szDown cur (o.oc.ids.length) = -1 := if_pos hneg
          have hz' : Hid (szDown left (fxsSize l) = -1) := by
            show _ = _
            have := hr.out; have := hin.out
            exact if_pos (by omega)
          go_wp2_with fail
          refine (szFire_any o p pc cur _ hids.len hc0 hc1).mono ?_
          rintro e w1 ⟨rfl, hb1⟩
          rw [hz]
          go_wp2
          go_ret
          exact ⟨by rw [← HG.out, hz'.out]; rfl, hb.trans (hb1.mono hb.size)⟩
        · have hz : szDown cur (o.oc.ids.length) = cur - o.oc.ids.length := if_neg hneg
          have hge : ¬ (cur - (o.oc.ids.length : Int) < 0) := hneg
          go_wp2_with fail
          refine (szFire_any o p pc cur _ hids.len hc0 hc1).mono ?_
          rintro e w1 ⟨rfl, hb1⟩
          rw [hz]
          go_wp2
          refine ⟨⟨k + 1, _, by omega, by go_num, rfl, by omega, by omega, ?_, hb.trans (hb1.mono hb.size)⟩, by simp [intOf]; omega⟩
          show _ = _
          have := hr.out; have := hin.out
          omega
      · have hz' : Hid (szDown left (fxsSize l) = cur) := by
          show _ = _
          have := hr.out
          rw [fxsTotal_end hlt] at this
          unfold szDown
          rw [if_neg (by omega)]; omega
        go_wp2
        go_ret
        exact ⟨by rw [← HG.out, hz'.out]; rfl, hb⟩
end Go.Proofs.Ythlddehmebgfoaa
