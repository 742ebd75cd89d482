/- Two places in one: both OccJoin. -/
import Derived.Test.YtmpkglfpcjoeiaaDoorOccJ1
import Derived.Test.YtmpkglfpcjoeiaaDoorAfter
namespace Go.Proofs.YtmpkglfpcjoeiaaDoor
open Go.ChangeShapes Go.WideShapes Go.ChangeAt Go.RowKit
set_option linter.unusedVariables false
set_option maxRecDepth 4000

/-- The numbers of both, ascending if both are. -/
def unionF : List Int → List Int → List Int
  | [], s => s
  | x :: r, [] => x :: r
  | x :: r, y :: s => if x < y then x :: unionF r (y :: s) else if x = y then y :: unionF r s else y :: unionF (x :: r) s
termination_by r s => r.length + s.length
theorem unionF_nil (l : List Int) : unionF l [] = l := by cases l <;> simp [unionF]
theorem unionF_left {l l' : List Int} {i k : Nat} (h : i < l.length) (h' : ¬ k < l'.length) : unionF (l.drop i) (l'.drop k) = l[i] :: unionF (l.drop (i + 1)) (l'.drop k) := by
  have e : l'.drop k = [] := List.drop_eq_nil_of_le (by omega)
  rw [e, unionF_nil, unionF_nil, List.drop_eq_getElem_cons h]
theorem unionF_right {l l' : List Int} {i k : Nat} (h : ¬ i < l.length) (h' : k < l'.length) : unionF (l.drop i) (l'.drop k) = l'[k] :: unionF (l.drop i) (l'.drop (k + 1)) := by
  have e : l.drop i = [] := List.drop_eq_nil_of_le (by omega)
  rw [e, List.drop_eq_getElem_cons h']
  simp [unionF]
theorem unionF_lt {l l' : List Int} {i k : Nat} (h : i < l.length) (h' : k < l'.length) (hl : l[i] < l'[k]) : unionF (l.drop i) (l'.drop k) = l[i] :: unionF (l.drop (i + 1)) (l'.drop k) := by
  rw [List.drop_eq_getElem_cons h, List.drop_eq_getElem_cons h', unionF, if_pos hl]
theorem unionF_eq {l l' : List Int} {i k : Nat} (h : i < l.length) (h' : k < l'.length) (hl : l[i] = l'[k]) : unionF (l.drop i) (l'.drop k) = l'[k] :: unionF (l.drop (i + 1)) (l'.drop (k + 1)) := by
  rw [List.drop_eq_getElem_cons h, List.drop_eq_getElem_cons h', unionF, if_neg (by omega), if_pos hl]
theorem unionF_gt {l l' : List Int} {i k : Nat} (h : i < l.length) (h' : k < l'.length) (hl : l'[k] < l[i]) : unionF (l.drop i) (l'.drop k) = l'[k] :: unionF (l.drop i) (l'.drop (k + 1)) := by
  rw [List.drop_eq_getElem_cons h, List.drop_eq_getElem_cons h', unionF, if_neg (by omega), if_neg (by omega)]
theorem unionF_mem : ∀ (l l' : List Int) (z : Int), z ∈ unionF l l' ↔ z ∈ l ∨ z ∈ l'
  | [], s, z => by simp [unionF]
  | x :: r, [], z => by simp [unionF]
  | x :: r, y :: s, z => by
    rw [unionF]
    split
    · rw [List.mem_cons, unionF_mem r (y :: s) z]; simp; grind
    · split
      · rename_i h; subst h
        rw [List.mem_cons, unionF_mem r s z]; simp; grind
      · rw [List.mem_cons, unionF_mem (x :: r) s z]; simp; grind
termination_by l l' => l.length + l'.length
theorem unionF_asc : ∀ (l l' : List Int), Asc l → Asc l' → Asc (unionF l l')
  | [], s, _, h => by simpa [unionF] using h
  | x :: r, [], h, _ => by simpa [unionF] using h
  | x :: r, y :: s, h, h' => by
    obtain ⟨a1, a2⟩ := List.pairwise_cons.1 h
    obtain ⟨b1, b2⟩ := List.pairwise_cons.1 h'
    rw [unionF]
    split
    · rename_i hxy
      refine List.pairwise_cons.2 ⟨fun z hz => ?_, unionF_asc r (y :: s) a2 h'⟩
      rcases (unionF_mem r (y :: s) z).1 hz with hz | hz
      · exact a1 z hz
      · rcases List.mem_cons.1 hz with rfl | hz
        · exact hxy
        · have := b1 z hz; omega
    · split
      · rename_i hxy; subst hxy
        refine List.pairwise_cons.2 ⟨fun z hz => ?_, unionF_asc r s a2 b2⟩
        rcases (unionF_mem r s z).1 hz with hz | hz
        · exact a1 z hz
        · exact b1 z hz
      · rename_i h1 h2
        refine List.pairwise_cons.2 ⟨fun z hz => ?_, unionF_asc (x :: r) s h b2⟩
        rcases (unionF_mem (x :: r) s z).1 hz with hz | hz
        · rcases List.mem_cons.1 hz with rfl | hz
          · omega
          · have := a1 z hz; omega
        · exact b1 z hz
termination_by l l' => l.length + l'.length
theorem unionF_length : ∀ (l l' : List Int), (unionF l l').length ≤ l.length + l'.length
  | [], s => by simp [unionF]
  | x :: r, [] => by simp [unionF]
  | x :: r, y :: s => by
    rw [unionF]
    split
    · have := unionF_length r (y :: s); simp at this ⊢; omega
    · split
      · have := unionF_length r s; simp; omega
      · have := unionF_length (x :: r) s; simp at this ⊢; omega
termination_by l l' => l.length + l'.length

theorem idsFrom_asc : ∀ (l : List Int) (last : Int), idsFrom last l = true → Asc l ∧ ∀ x ∈ l, last < x ∧ 0 ≤ x ∧ x < 24
  | [], _, _ => ⟨List.Pairwise.nil, by simp⟩
  | i :: r, last, h => by
    simp [idsFrom] at h
    obtain ⟨h1, h2⟩ := idsFrom_asc r i h.2
    refine ⟨List.pairwise_cons.2 ⟨fun x hx => (h2 x hx).1, h1⟩, fun x hx => ?_⟩
    rcases List.mem_cons.1 hx with rfl | hx
    · omega
    · have := h2 x hx; omega
theorem foldl_bit (l : List Int) : ∀ (s : Nat) (j : Nat), (l.foldl (fun s i => s ||| 2 ^ i.toNat) s).testBit j = (s.testBit j || l.any (fun i => i.toNat == j)) := by
  induction l with
  | nil => intro s j; simp
  | cons i r ih =>
    intro s j
    rw [List.foldl_cons, ih, Nat.testBit_or, Nat.testBit_two_pow, List.any_cons, Bool.or_assoc]
    congr 1
theorem bitsOf_bit (l : List Int) (j : Nat) : (bitsOf l).testBit j = l.any (fun i => i.toNat == j) := by
  unfold bitsOf; rw [foldl_bit]; simp
theorem bits_union {l l' r : List Int} (h : idsFrom (-1) l = true) (h' : idsFrom (-1) l' = true) (hr : IsBits (bitsOf l ||| bitsOf l') r) : r = unionF l l' := by
  obtain ⟨a1, a2⟩ := idsFrom_asc l _ h
  obtain ⟨b1, b2⟩ := idsFrom_asc l' _ h'
  refine asc_ext _ _ hr.asc (unionF_asc l l' a1 b1) fun z => ?_
  rw [hr.mem, unionF_mem, Nat.testBit_or, bitsOf_bit, bitsOf_bit]
  simp only [Bool.or_eq_true, List.any_eq_true, beq_iff_eq]
  constructor
  · rintro ⟨h0, (⟨i, hi, e⟩ | ⟨i, hi, e⟩)⟩
    · have := a2 i hi
      obtain rfl : i = z := by omega
      exact .inl hi
    · have := b2 i hi
      obtain rfl : i = z := by omega
      exact .inr hi
  · rintro (hz | hz)
    · exact ⟨(a2 z hz).2.1, .inl ⟨z, hz, rfl⟩⟩
    · exact ⟨(b2 z hz).2.1, .inr ⟨z, hz, rfl⟩⟩
theorem bitsOf_small {l : List Int} (h : idsFrom (-1) l = true) : bitsOf l < 16777216 := by
  obtain ⟨_, a2⟩ := idsFrom_asc l _ h
  have : ∀ (l : List Int) (s : Nat), (∀ x ∈ l, 0 ≤ x ∧ x < 24) → s < 2 ^ 24 → l.foldl (fun s i => s ||| 2 ^ i.toNat) s < 2 ^ 24 := by
    intro l
    induction l with
    | nil => intro s _ hs; simpa using hs
    | cons i r ih =>
      intro s hl hs
      refine ih _ (fun x hx => hl x (by simp [hx])) (Nat.or_lt_two_pow hs (Nat.pow_lt_pow_right (by omega) ?_))
      have := hl i (by simp)
      omega
  exact this l 0 (fun x hx => (a2 x hx).2) (by decide)

set_option maxHeartbeats 1000000 in
theorem l3Union_any (a a' : Option Addr) (cap cap' : Nat) (l l' : List Int) (w : World) (h : Ints w a l) (h' : Ints w a' l') (hn : l.length ≤ 1000) (hn' : l'.length ≤ 1000) :
    Calls Tryd.prog 23 #[.slice a l.length cap, .slice a' l'.length cap'] w fun e w' => ∃ v, e = .returned v ∧ w'.ownsRow w.heap.size 3 1 v (unionF l l').length (intCells (unionF l l')) ∧ Below w.heap.size w w' := by
  obtain ⟨i0, hi, hz0, hz1, hz2⟩ := info_int_parts
  go_enter Tryd.func23, Tryd.ntmps23
  go_wp2_with fail
  go_loopw [5, 6, 7] (fun v iv kv wr => ∃ i k : Nat, ∃ out : List Int, i ≤ l.length ∧ k ≤ l'.length ∧ iv = .int .i64 i ∧ kv = .int .i64 k ∧ Hid (out ++ unionF (l.drop i) (l'.drop k) = unionF l l') ∧ Hid (out.length ≤ i + k) ∧
      wr.ownsRow w.heap.size 3 1 v out.length (intCells out) ∧ Below w.heap.size w wr) (fun _ iv kv _ => (l.length - (intOf iv).toNat) + (l'.length - (intOf kv).toNat))
  case atStart => exact ⟨0, 0, [], Nat.zero_le _, Nat.zero_le _, rfl, rfl, rfl, by show _ ≤ _; simp, World.ownsRow_made _ _ _ (Nat.le_refl _) (by simp [maxLen]) rfl, (Below.refl _ _).alloc (Nat.le_refl _) _⟩
  case round =>
    obtain ⟨i, k, out, hki, hkk, rfl, rfl, hr, hle, hown, hb⟩ := hrel
    have hol : out.length ≤ 2000 := by have := hle.out; omega
    by_cases hlk : k < l'.length
    · have t1 : decide (l'.length ≤ k) = false := by simpa using hlk
      obtain ⟨b', off', rfl, hbl', hc'⟩ := (h'.below hb).cells (by omega)
      have d0 := hc' k hlk
      clear hc'
      have g0 := fun u : After wr => u.cell d0 hbl'
      by_cases hli : i < l.length
      · have t2 : decide (i < l.length) = true := by simpa using hli
        obtain ⟨b, off, rfl, hbl, hc⟩ := (h.below hb).cells (by omega)
        have c0 := hc i hli
        clear hc
        have a0 := fun u : After wr => u.cell c0 hbl
        by_cases hxy : l[i] < l'[k]
        · have hst : Hid (unionF (l.drop i) (l'.drop k) = _) := unionF_lt hli hlk hxy
          have t3 : decide (l[i] < l'[k]) = true := by simpa using hxy
          generalize l[i] = x at c0 a0 hxy hst t3
          generalize l'[k] = y at d0 g0 hxy t3
          go_wp2
          have hany := after_any
          refine wp_region_after (by kernel_rfl) (by kernel_rfl) ?_
          repeat (go_big_quiet_step (fail))
          refine wpQuiet_nil ?_
          intro w1 huw1
          have hbw1 := after_of huw1
          clear huw1
          have c1 : w1.cell? ⟨b, off + i, none⟩ = some (.int .i64 x) := (hbw1.cell hbl).trans c0
          clear a0 g0 c0 d0
          have hbq1 : Below w.heap.size w w1 := hb.trans (hbw1.mono hb.size)
          have hownq := owns_below' hown hbw1
          go_wp2_with (at_builtin; refine wpList_append_own _ rfl _ _ 22 rfl w.heap.size 3 i0 (.int .i64 0) 1 8 Tryd.underlying22 hi hz0 hz1 hz2 rfl (by decide) _ _ _ rfl (hownq.alloc _) ⟨w1.heap.size, 0, none⟩ 1 1 [.int .i64 x] rfl rfl ?c1 ?c2 ?c3 ?c4 ?c5 ?_)
          case c1 => exact new_int w1 x 3
          case c2 => intro u hu; simp at hu; subst hu; rfl
          case c3 => unfold maxLen; omega
          case c4 => omega
          case c5 => have := hbq1.size; simp; omega
          intro v' w9 hown' hgr _
          have hbe : Below w.heap.size w w9 := (hbq1.alloc hbq1.size _).grown hgr (by have := hbq1.size; simp; omega) (fun x hx => (hownq.lt x hx).1)
          go_wp2
          refine ⟨⟨i + 1, k, out ++ [x], by omega, by omega, by go_num, by go_num, ?_, ?_, by rw [intCells_snoc, List.length_append]; exact hown', hbe⟩, by simp [intOf]; omega⟩
          · show _ = _; rw [← hr.out, hst.out]; simp
          · show _ ≤ _; have := hle.out; simp; omega
        · have t3 : decide (l[i] < l'[k]) = false := by simpa using hxy
          by_cases heq : l[i] = l'[k]
          · have hst : Hid (unionF (l.drop i) (l'.drop k) = _) := unionF_eq hli hlk heq
            have t4 : (l[i] == l'[k]) = true := by simpa using heq
            generalize l[i] = x at c0 a0 hxy heq t3 t4
            generalize l'[k] = y at d0 g0 hxy heq hst t3 t4
            clear hxy heq
            go_wp2
            have hany := after_any
            refine wp_region_after (by kernel_rfl) (by kernel_rfl) ?_
            repeat (go_big_quiet_step (fail))
            refine wpQuiet_nil ?_
            intro w1 huw1
            have hbw1 := after_of huw1
            clear huw1
            have a1 := fun u : After w1 => u.cell ((hbw1.cell hbl).trans c0) (Nat.lt_of_lt_of_le hbl hbw1.size)
            have g1 := fun u : After w1 => u.cell ((hbw1.cell hbl').trans d0) (Nat.lt_of_lt_of_le hbl' hbw1.size)
            clear a0 g0
            go_wp2
            have hany := after_any
            refine wp_region_after (by kernel_rfl) (by kernel_rfl) ?_
            repeat (go_big_quiet_step (fail))
            refine wpQuiet_nil ?_
            intro w2 huw2
            have hbw2 := after_of huw2
            clear huw2
            have hb12 := hbw1.trans (hbw2.mono hbw1.size)
            have d2 : w2.cell? ⟨b', off' + k, none⟩ = some (.int .i64 y) := (hb12.cell hbl').trans d0
            clear a1 g1 c0 d0
            have hbq2 : Below w.heap.size w w2 := hb.trans (hb12.mono hb.size)
            have hownq := owns_below' hown hb12
            go_wp2_with (at_builtin; refine wpList_append_own _ rfl _ _ 22 rfl w.heap.size 3 i0 (.int .i64 0) 1 8 Tryd.underlying22 hi hz0 hz1 hz2 rfl (by decide) _ _ _ rfl (hownq.alloc _) ⟨w2.heap.size, 0, none⟩ 1 1 [.int .i64 y] rfl rfl ?c1 ?c2 ?c3 ?c4 ?c5 ?_)
            case c1 => exact new_int w2 y 3
            case c2 => intro u hu; simp at hu; subst hu; rfl
            case c3 => unfold maxLen; omega
            case c4 => omega
            case c5 => have := hbq2.size; simp; omega
            intro v' w9 hown' hgr _
            have hbe : Below w.heap.size w w9 := (hbq2.alloc hbq2.size _).grown hgr (by have := hbq2.size; simp; omega) (fun x hx => (hownq.lt x hx).1)
            go_wp2
            refine ⟨⟨i + 1, k + 1, out ++ [y], by omega, by omega, by go_num, by go_num, ?_, ?_, by rw [intCells_snoc, List.length_append]; exact hown', hbe⟩, by simp [intOf]; omega⟩
            · show _ = _; rw [← hr.out, hst.out]; simp
            · show _ ≤ _; have := hle.out; simp; omega
          · have hst : Hid (unionF (l.drop i) (l'.drop k) = _) := unionF_gt hli hlk (by omega)
            have t4 : (l[i] == l'[k]) = false := by simpa using heq
            generalize l[i] = x at c0 a0 hxy heq t3 t4
            generalize l'[k] = y at d0 g0 hxy heq hst t3 t4
            clear hxy heq
            go_wp2
            have hany := after_any
            refine wp_region_after (by kernel_rfl) (by kernel_rfl) ?_
            repeat (go_big_quiet_step (fail))
            refine wpQuiet_nil ?_
            intro w1 huw1
            have hbw1 := after_of huw1
            clear huw1
            have a1 := fun u : After w1 => u.cell ((hbw1.cell hbl).trans c0) (Nat.lt_of_lt_of_le hbl hbw1.size)
            have g1 := fun u : After w1 => u.cell ((hbw1.cell hbl').trans d0) (Nat.lt_of_lt_of_le hbl' hbw1.size)
            clear a0 g0
            go_wp2
            have hany := after_any
            refine wp_region_after (by kernel_rfl) (by kernel_rfl) ?_
            repeat (go_big_quiet_step (fail))
            refine wpQuiet_nil ?_
            intro w2 huw2
            have hbw2 := after_of huw2
            clear huw2
            have hb12 := hbw1.trans (hbw2.mono hbw1.size)
            have d2 : w2.cell? ⟨b', off' + k, none⟩ = some (.int .i64 y) := (hb12.cell hbl').trans d0
            clear a1 g1 c0 d0
            have hbq2 : Below w.heap.size w w2 := hb.trans (hb12.mono hb.size)
            have hownq := owns_below' hown hb12
            go_wp2_with (at_builtin; refine wpList_append_own _ rfl _ _ 22 rfl w.heap.size 3 i0 (.int .i64 0) 1 8 Tryd.underlying22 hi hz0 hz1 hz2 rfl (by decide) _ _ _ rfl (hownq.alloc _) ⟨w2.heap.size, 0, none⟩ 1 1 [.int .i64 y] rfl rfl ?c1 ?c2 ?c3 ?c4 ?c5 ?_)
            case c1 => exact new_int w2 y 3
            case c2 => intro u hu; simp at hu; subst hu; rfl
            case c3 => unfold maxLen; omega
            case c4 => omega
            case c5 => have := hbq2.size; simp; omega
            intro v' w9 hown' hgr _
            have hbe : Below w.heap.size w w9 := (hbq2.alloc hbq2.size _).grown hgr (by have := hbq2.size; simp; omega) (fun x hx => (hownq.lt x hx).1)
            go_wp2
            refine ⟨⟨i, k + 1, out ++ [y], by omega, by omega, by go_num, by go_num, ?_, ?_, by rw [intCells_snoc, List.length_append]; exact hown', hbe⟩, by simp [intOf]; omega⟩
            · show _ = _; rw [← hr.out, hst.out]; simp
            · show _ ≤ _; have := hle.out; simp; omega
      · have t2 : decide (i < l.length) = false := by simpa using hli
        have hst : Hid (unionF (l.drop i) (l'.drop k) = _) := unionF_right hli hlk
        generalize l'[k] = y at d0 g0 hst
        go_wp2
        have hany := after_any
        refine wp_region_after (by kernel_rfl) (by kernel_rfl) ?_
        repeat (go_big_quiet_step (fail))
        refine wpQuiet_nil ?_
        intro w1 huw1
        have hbw1 := after_of huw1
        clear huw1
        have g1 := fun u : After w1 => u.cell ((hbw1.cell hbl').trans d0) (Nat.lt_of_lt_of_le hbl' hbw1.size)
        clear g0
        go_wp2
        have hany := after_any
        refine wp_region_after (by kernel_rfl) (by kernel_rfl) ?_
        repeat (go_big_quiet_step (fail))
        refine wpQuiet_nil ?_
        intro w2 huw2
        have hbw2 := after_of huw2
        clear huw2
        have hb12 := hbw1.trans (hbw2.mono hbw1.size)
        have d2 : w2.cell? ⟨b', off' + k, none⟩ = some (.int .i64 y) := (hb12.cell hbl').trans d0
        clear g1 d0
        have hbq2 : Below w.heap.size w w2 := hb.trans (hb12.mono hb.size)
        have hownq := owns_below' hown hb12
        go_wp2_with (at_builtin; refine wpList_append_own _ rfl _ _ 22 rfl w.heap.size 3 i0 (.int .i64 0) 1 8 Tryd.underlying22 hi hz0 hz1 hz2 rfl (by decide) _ _ _ rfl (hownq.alloc _) ⟨w2.heap.size, 0, none⟩ 1 1 [.int .i64 y] rfl rfl ?c1 ?c2 ?c3 ?c4 ?c5 ?_)
        case c1 => exact new_int w2 y 3
        case c2 => intro u hu; simp at hu; subst hu; rfl
        case c3 => unfold maxLen; omega
        case c4 => omega
        case c5 => have := hbq2.size; simp; omega
        intro v' w9 hown' hgr _
        have hbe : Below w.heap.size w w9 := (hbq2.alloc hbq2.size _).grown hgr (by have := hbq2.size; simp; omega) (fun x hx => (hownq.lt x hx).1)
        go_wp2
        refine ⟨⟨i, k + 1, out ++ [y], by omega, by omega, by go_num, by go_num, ?_, ?_, by rw [intCells_snoc, List.length_append]; exact hown', hbe⟩, by simp [intOf]; omega⟩
        · show _ = _; rw [← hr.out, hst.out]; simp
        · show _ ≤ _; have := hle.out; simp; omega
    · have t1 : decide (l'.length ≤ k) = true := by simp; omega
      by_cases hli : i < l.length
      · have t2 : decide (i < l.length) = true := by simpa using hli
        have hst : Hid (unionF (l.drop i) (l'.drop k) = _) := unionF_left hli hlk
        obtain ⟨b, off, rfl, hbl, hc⟩ := (h.below hb).cells (by omega)
        have c0 := hc i hli
        clear hc
        have a0 := fun u : After wr => u.cell c0 hbl
        generalize l[i] = x at c0 a0 hst
        go_wp2
        have hany := after_any
        refine wp_region_after (by kernel_rfl) (by kernel_rfl) ?_
        repeat (go_big_quiet_step (fail))
        refine wpQuiet_nil ?_
        intro w1 huw1
        have hbw1 := after_of huw1
        clear huw1
        have c1 : w1.cell? ⟨b, off + i, none⟩ = some (.int .i64 x) := (hbw1.cell hbl).trans c0
        clear a0 c0
        have hbq1 : Below w.heap.size w w1 := hb.trans (hbw1.mono hb.size)
        have hownq := owns_below' hown hbw1
        go_wp2_with (at_builtin; refine wpList_append_own _ rfl _ _ 22 rfl w.heap.size 3 i0 (.int .i64 0) 1 8 Tryd.underlying22 hi hz0 hz1 hz2 rfl (by decide) _ _ _ rfl (hownq.alloc _) ⟨w1.heap.size, 0, none⟩ 1 1 [.int .i64 x] rfl rfl ?c1 ?c2 ?c3 ?c4 ?c5 ?_)
        case c1 => exact new_int w1 x 3
        case c2 => intro u hu; simp at hu; subst hu; rfl
        case c3 => unfold maxLen; omega
        case c4 => omega
        case c5 => have := hbq1.size; simp; omega
        intro v' w9 hown' hgr _
        have hbe : Below w.heap.size w w9 := (hbq1.alloc hbq1.size _).grown hgr (by have := hbq1.size; simp; omega) (fun x hx => (hownq.lt x hx).1)
        go_wp2
        refine ⟨⟨i + 1, k, out ++ [x], by omega, by omega, by go_num, by go_num, ?_, ?_, by rw [intCells_snoc, List.length_append]; exact hown', hbe⟩, by simp [intOf]; omega⟩
        · show _ = _; rw [← hr.out, hst.out]; simp
        · show _ ≤ _; have := hle.out; simp; omega
      · go_wp2
        go_ret
        have hfin : out = unionF l l' := by
          have := hr.out
          rw [List.drop_eq_nil_of_le (by omega), List.drop_eq_nil_of_le (by omega)] at this
          simpa [unionF] using this
        rw [← hfin]
        exact ⟨_, rfl, hown, hb⟩
end Go.Proofs.YtmpkglfpcjoeiaaDoor
