/- How many parts there are: the laws' own count. -/
/- How much there is of rules: the laws' own count. -/
import Derived.Test.YthlddehmebgfoaaEx
import Derived.Test.YthlddehmebgfoaaRu
namespace Go.Proofs.Ythlddehmebgfoaa
open Go.ChangeShapes Go.WideShapes Go.ChangeAt Go.RowKit
set_option linter.unusedVariables false
set_option maxRecDepth 4000

theorem Fo.inner_at {F : Fo} {k : Nat} {kd sy n : Int} {kids : Fo} (h : F.drop k = .cons kd sy n kids (F.drop (k + 1))) : (F.drop k).inner = kids.size + (F.drop (k + 1)).inner := by
  rw [h]; rfl

/-- What is left of a number when a list was counted: below 0 is -1. -/
def szLeft (left : Int) (s : Nat) : Int := if left - s < 0 then -1 else left - s

set_option maxHeartbeats 400000 in
theorem szEx_of (kd sy n : Int) (a : Option Addr) (cap : Nat) (F : Fo) (left : Int) (w : World)
    (hS : ∀ w', Below w.heap.size w w' → Calls Try.prog 76 #[.slice a F.len cap, .int .i64 left] w' fun e w'' => e = .returned (.int .i64 (szLeft left F.size)) ∧ Below w'.heap.size w' w'') :
    Calls Try.prog 55 #[.agg #[.int .i64 kd, .int .i64 sy, .int .i64 n, .slice a F.len cap], .int .i64 left] w fun e w' => e = .returned (.int .i64 (szLeft left F.size)) ∧ Below w.heap.size w w' := by
  have hb0 : Below w.heap.size w (w.alloc (.cells #[.int .i64 kd, .int .i64 sy, .int .i64 n, .slice a F.len cap] 68)) := (Below.refl _ _).alloc (Nat.le_refl _) _
  by_cases h : left - F.size < 0
  · have hz : szLeft left F.size = -1 := if_pos h
    rw [hz] at hS ⊢
    go_enter Try.func55, Try.ntmps55
    go_wp2_with fail
    refine (hS _ hb0).mono ?_
    rintro e w1 ⟨rfl, hb1⟩
    go_wp2
    go_ret
    exact ⟨rfl, hb0.trans (hb1.mono hb0.size)⟩
  · have hz : szLeft left F.size = left - F.size := if_neg h
    rw [hz] at hS ⊢
    have hge : ¬ (left - (F.size : Int) < 0) := h
    go_enter Try.func55, Try.ntmps55
    go_wp2_with fail
    refine (hS _ hb0).mono ?_
    rintro e w1 ⟨rfl, hb1⟩
    go_wp2
    go_ret
    exact ⟨rfl, hb0.trans (hb1.mono hb0.size)⟩

set_option maxHeartbeats 400000 in
theorem szExS_any : ∀ (N : Nat) (F : Fo), F.size ≤ N → ∀ (a : Option Addr) (cap : Nat) (left : Int) (w : World), Slc w a F → 0 ≤ left → left ≤ 1048576 →
    Calls Try.prog 76 #[.slice a F.len cap, .int .i64 left] w fun e w' => e = .returned (.int .i64 (szLeft left F.size)) ∧ Below w.heap.size w w' := by
  intro N
  induction N using Nat.strongRecOn with
  | _ N ih =>
  intro F hN a cap left w h h0 h1
  have hn := h.len
  unfold maxLen at hn
  have hse := Fo.size_eq F
  by_cases hl : left - F.len < 0
  · have hz : szLeft left F.size = -1 := if_pos (by omega)
    rw [hz]
    go_enter Try.func76, Try.ntmps76
    go_wp2
    go_ret
    exact ⟨rfl, Below.refl _ _⟩
  · obtain ⟨G, hG⟩ : ∃ G, szLeft left F.size = G := ⟨_, rfl⟩
    rw [hG]
    go_enter Try.func76, Try.ntmps76
    go_wp2
    go_loopw [1, 5] (fun c i wr => ∃ k : Nat, ∃ cur : Int, k ≤ F.len ∧ i = .int .i64 k ∧ c = .int .i64 cur ∧ 0 ≤ cur ∧ cur ≤ 1048576 ∧ Hid (cur - ((F.drop k).inner : Int) = left - F.size) ∧ Below w.heap.size w wr) (fun _ i _ => F.len - (intOf i).toNat)
    case atStart => exact ⟨0, _, Nat.zero_le _, rfl, rfl, by omega, by omega, by show _ = _; rw [Fo.drop_zero]; omega, Below.refl _ _⟩
    case round =>
      obtain ⟨k, cur, hk, rfl, rfl, hc0, hc1, hr, hb⟩ := hrel
      by_cases hlt : k < F.len
      · obtain ⟨b, off, kd, sy, n, kids, a', cap', rfl, hbl, hd, hsz, c0, c1, c2, c3, hkids⟩ := (h.below hb).at hlt
        have hin : Hid ((F.drop k).inner = _) := Fo.inner_at hd
        clear hd
        have hstep := fun w' hb' => ih kids.size (by omega) kids (Nat.le_refl _) a' cap' cur w' (hkids.below hb') hc0 hc1
        by_cases hneg : cur - kids.size < 0
        · have hz : szLeft cur kids.size = -1 := if_pos hneg
          have hz' : Hid (szLeft left F.size = -1) := by
            show _ = _
            have := hr.out; have := hin.out
            exact if_pos (by omega)
          go_wp2_with fail
          refine (szEx_of kd sy n a' cap' kids cur _ hstep).mono ?_
          rintro e w1 ⟨rfl, hb1⟩
          rw [hz]
          go_wp2
          go_ret
          exact ⟨by rw [← hG, hz'.out]; rfl, hb.trans (hb1.mono hb.size)⟩
        · have hz : szLeft cur kids.size = cur - kids.size := if_neg hneg
          have hge : ¬ (cur - (kids.size : Int) < 0) := hneg
          go_wp2_with fail
          refine (szEx_of kd sy n a' cap' kids cur _ hstep).mono ?_
          rintro e w1 ⟨rfl, hb1⟩
          rw [hz]
          go_wp2
          refine ⟨⟨k + 1, _, by omega, by go_num, rfl, by omega, by omega, ?_, hb.trans (hb1.mono hb.size)⟩, by simp [intOf]; omega⟩
          show _ = _
          have := hr.out; have := hin.out
          omega
      · have hz' : Hid (szLeft left F.size = cur) := by
          show _ = _
          have := hr.out
          rw [Fo.drop_end k F (by omega)] at this
          simp only [Fo.inner] at this
          unfold szLeft
          rw [if_neg (by omega)]; omega
        go_wp2
        go_ret
        exact ⟨by rw [← hG, hz'.out]; rfl, hb⟩

theorem szEx_any (kd sy n : Int) (a : Option Addr) (cap : Nat) (F : Fo) (left : Int) (w : World) (h : Slc w a F) (h0 : 0 ≤ left) (h1 : left ≤ 1048576) :
    Calls Try.prog 55 #[.agg #[.int .i64 kd, .int .i64 sy, .int .i64 n, .slice a F.len cap], .int .i64 left] w fun e w' => e = .returned (.int .i64 (szLeft left F.size)) ∧ Below w.heap.size w w' :=
  szEx_of kd sy n a cap F left w fun w' hb => szExS_any F.size F (Nat.le_refl _) a cap left w' (h.below hb) h0 h1
end Go.Proofs.Ythlddehmebgfoaa
namespace Go.Proofs.Ythlddehmebgfoaa
open Go.ChangeShapes Go.WideShapes Go.ChangeAt Go.RowKit Go.Deep
set_option linter.unusedVariables false
set_option maxRecDepth 4000

def ruSize (x : Ru) : Nat := x.nm.size + x.ks.size
def rusTotal : List Ru → Nat
  | [] => 0
  | x :: r => ruSize x + rusTotal r
theorem rusTotal_step {l : List Ru} {k : Nat} (h : k < l.length) : rusTotal (l.drop k) = ruSize l[k] + rusTotal (l.drop (k + 1)) := by rw [List.drop_eq_getElem_cons h]; rfl
theorem rusTotal_end {l : List Ru} {k : Nat} (h : ¬ k < l.length) : rusTotal (l.drop k) = 0 := by rw [List.drop_eq_nil_of_le (by omega)]; rfl
theorem rusTotal_get : ∀ {l : List Ru} {k : Nat} (h : k < l.length), ruSize l[k] ≤ rusTotal l
  | x :: r, 0, _ => by simp [rusTotal]
  | x :: r, k + 1, h => by have := rusTotal_get (l := r) (k := k) (by simpa using h); simp [rusTotal]; omega
def rusSize (l : List Ru) : Nat := l.length + rusTotal l

set_option maxHeartbeats 1000000 in
theorem szRule_any (x : Ru) (a : Option Addr) (c : Nat) (left : Int) (w : World) (h : RuIn w a x) (h0 : 0 ≤ left) (h1 : left ≤ 1048576) :
    Calls Try.prog 35 #[ruV x a c, .int .i64 left] w fun e w' => e = .returned (.int .i64 (szLeft left (ruSize x))) ∧ Below w.heap.size w w' := by
  obtain ⟨G, hG⟩ : ∃ G, szLeft left (ruSize x) = G := ⟨_, rfl⟩
  rw [hG]
  have hse : Hid (ruSize x = x.nm.size + x.ks.size) := rfl
  have HG : Hid (szLeft left (ruSize x) = G) := hG
  clear hG
  have hnm := h.nm
  unfold maxLen at hnm
  obtain ⟨w0, hw0⟩ : ∃ w0, w.alloc (.cells (ruC x a c) 70) = w0 := ⟨_, rfl⟩
  have hA0 := bx_new w (ruC x a c) 70
  have b0 := xBelow_new w (.cells (ruC x a c) 70)
  rw [hw0] at hA0 b0
  obtain ⟨q0, q1, q2, q3, q4, q5, q6, q7, q8, q9, q10, q11⟩ := hA0.twelve
  simp only [Nat.zero_add] at q0 q1 q2 q3 q4 q5 q6 q7 q8 q9 q10 q11
  have hi0 := h.below b0
  unfold ruV
  unfold ruC at hw0 ⊢
  by_cases l1 : left - x.nm.size < 0
  · go_enter Try.func35, Try.ntmps35
    go_wp2
    go_ret
    exact ⟨by rw [← HG.out, show szLeft left (ruSize x) = -1 from if_pos (by have := hse.out; omega)]; rfl, b0⟩
  · have g1 : ¬ (left - (x.nm.size : Int) < 0) := l1
    go_enter Try.func35, Try.ntmps35
    go_wp2_with fail
    refine (szEx_any x.kd x.sy x.n a c x.ks _ _ hi0.ks (by omega) (by omega)).mono ?_
    rintro e w1 ⟨rfl, hb1⟩
    have b1 := b0.trans (hb1.mono b0.size)
    by_cases l2 : left - x.nm.size - x.ks.size < 0
    · have hz : szLeft (left - x.nm.size) x.ks.size = -1 := if_pos l2
      rw [hz]
      go_wp2
      go_ret
      exact ⟨by rw [← HG.out, show szLeft left (ruSize x) = -1 from if_pos (by have := hse.out; omega)]; rfl, b1⟩
    · have hz : szLeft (left - x.nm.size) x.ks.size = left - x.nm.size - x.ks.size := if_neg l2
      rw [hz]
      have g2 : ¬ (left - (x.nm.size : Int) - (x.ks.size : Int) < 0) := l2
      go_wp2
      go_ret
      exact ⟨by rw [← HG.out, show szLeft left (ruSize x) = left - x.nm.size - x.ks.size from by unfold szLeft; have := hse.out; rw [if_neg (by omega)]; omega]; rfl, b1⟩

set_option maxHeartbeats 1000000 in
theorem szRuleS_any (a : Option Addr) (cap : Nat) (l : List Ru) (left : Int) (w : World) (h : Rus w a l) (h0 : 0 ≤ left) (h1 : left ≤ 1048576) :
    Calls Try.prog 9 #[.slice a l.length cap, .int .i64 left] w fun e w' => e = .returned (.int .i64 (szLeft left (rusSize l))) ∧ Below w.heap.size w w' := by
  have hn := h.len
  unfold maxLen at hn
  have hse : rusSize l = l.length + rusTotal l := rfl
  by_cases hl : left - l.length < 0
  · have hz : szLeft left (rusSize l) = -1 := if_pos (by omega)
    rw [hz]
    clear hse
    go_enter Try.func9, Try.ntmps9
    go_wp2
    go_ret
    exact ⟨rfl, Below.refl _ _⟩
  · obtain ⟨G, hG⟩ : ∃ G, szLeft left (rusSize l) = G := ⟨_, rfl⟩
    rw [hG]
    have hse' : Hid (rusSize l = l.length + rusTotal l) := hse
    have HG : Hid (szLeft left (rusSize l) = G) := hG
    clear hse hG
    go_enter Try.func9, Try.ntmps9
    go_wp2
    go_loopw [1, 5] (fun c i wr => ∃ k : Nat, ∃ cur : Int, k ≤ l.length ∧ i = .int .i64 k ∧ c = .int .i64 cur ∧ 0 ≤ cur ∧ cur ≤ 1048576 ∧ Hid (cur - (rusTotal (l.drop k) : Int) = left - rusSize l) ∧ Below w.heap.size w wr) (fun _ i _ => l.length - (intOf i).toNat)
    case atStart => exact ⟨0, _, Nat.zero_le _, rfl, rfl, by omega, by omega, by show _ = _; have := hse'.out; rw [List.drop_zero]; omega, Below.refl _ _⟩
    case round =>
      obtain ⟨k, cur, hk, rfl, rfl, hc0, hc1, hr, hb⟩ := hrel
      by_cases hlt : k < l.length
      · obtain ⟨b, off, p, c, rfl, hbl, ht, hids⟩ := (h.below hb).at hlt
        have hin : Hid (rusTotal (l.drop k) = _) := rusTotal_step hlt
        generalize l[k] = o at ht hids hin
        obtain ⟨q0, q1, q2, q3, q4, q5, q6, q7, q8, q9, q10, q11⟩ := ht
        by_cases hneg : cur - ruSize o < 0
        · have hz : szLeft cur (ruSize o) = -1 := if_pos hneg
          have hz' : Hid (szLeft left (rusSize l) = -1) := by
            show _ = _
            have := hr.out; have := hin.out
            exact if_pos (by omega)
          go_wp2_with fail
          refine (szRule_any o p c cur _ hids hc0 hc1).mono ?_
          rintro e w1 ⟨rfl, hb1⟩
          rw [hz]
          go_wp2
          go_ret
          exact ⟨by rw [← HG.out, hz'.out]; rfl, hb.trans (hb1.mono hb.size)⟩
        · have hz : szLeft cur (ruSize o) = cur - ruSize o := if_neg hneg
          have hge : ¬ (cur - (ruSize o : Int) < 0) := hneg
          go_wp2_with fail
          refine (szRule_any o p c cur _ hids hc0 hc1).mono ?_
          rintro e w1 ⟨rfl, hb1⟩
          rw [hz]
          go_wp2
          refine ⟨⟨k + 1, _, by omega, by go_num, rfl, by omega, by omega, ?_, hb.trans (hb1.mono hb.size)⟩, by simp [intOf]; omega⟩
          show _ = _
          have := hr.out; have := hin.out
          omega
      · have hz' : Hid (szLeft left (rusSize l) = cur) := by
          show _ = _
          have := hr.out
          rw [rusTotal_end hlt] at this
          unfold szLeft
          rw [if_neg (by omega)]; omega
        go_wp2
        go_ret
        exact ⟨by rw [← HG.out, hz'.out]; rfl, hb⟩
end Go.Proofs.Ythlddehmebgfoaa
