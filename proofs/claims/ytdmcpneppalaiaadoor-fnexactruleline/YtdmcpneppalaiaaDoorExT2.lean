/- The heads of parts, and what the program's ExText answers. -/
import Derived.Test.YtdmcpneppalaiaaDoorExT1
import Derived.Test.YtdmcpneppalaiaaDoorExImpl
import Derived.Test.YtdmcpneppalaiaaDoorShelf
import Derived.Lib.Join
namespace Go.Proofs.YtdmcpneppalaiaaDoor
open Go.ChangeShapes Go.WideShapes Go.ChangeAt Go.RowKit
set_option linter.unusedVariables false
set_option maxRecDepth 4000

/-- What stands in the text ahead of the kids. -/
def headT (x : Int × Int × Int) : List UInt8 := if x.1 = 1 then [letB x.2.1] else wordB x.1 ++ (if x.1 = 7 then 32 :: Lib.itoa x.2.2 else [])
/-- Kind, Sym and N as they can be. -/
def Good (kd sy n : Int) : Prop := 1 ≤ kd ∧ kd ≤ 7 ∧ (kd = 1 → 0 ≤ sy ∧ sy < 5) ∧ (kd = 7 → 1 ≤ n ∧ n ≤ 20)
theorem good_of {kd sy n : Int} {len : Nat} (h : headB kd sy n len = true) : Good kd sy n := by
  have h1 := head_kd h
  simp only [headB, decide_eq_true_eq] at h
  refine ⟨h1.1, h1.2, fun e => by omega, fun e => ?_⟩
  have := h.2.2.2.2
  rw [if_pos e] at this
  exact this
theorem good_all : ∀ (d : Nat) (F : Fo), formF d F = true → ∀ x ∈ preF F, Good x.1 x.2.1 x.2.2
  | _, .nil, _, x, hx => by simp [preF] at hx
  | 0, .cons .., h, _, _ => by simp [formF] at h
  | d + 1, .cons kd sy n k r, h, x, hx => by
    simp only [formF, Bool.and_eq_true] at h
    simp only [preF, List.mem_cons, List.mem_append] at hx
    rcases hx with rfl | hx | hx
    · exact good_of h.1.1
    · exact good_all d k h.1.2 x hx
    · exact good_all (d + 1) r h.2 x hx
theorem leaf_nil {sy n : Int} {k : Fo} (h : headB 1 sy n k.len = true) : k = .nil := by
  have := ((headB_parts _ _ _ _).1 h).2.1
  have hl : k.len = 0 := by simp [kidsOf] at this; omega
  cases k with
  | nil => rfl
  | cons => simp [Fo.len] at hl
theorem text_heads : ∀ (d : Nat) (F : Fo), formF d F = true → textF F = (preF F).flatMap fun x => 32 :: headT x
  | _, .nil, _ => rfl
  | 0, .cons .., h => by simp [formF] at h
  | d + 1, .cons kd sy n k r, h => by
    simp only [formF, Bool.and_eq_true] at h
    have hk := text_heads d k h.1.2
    have hr := text_heads (d + 1) r h.2
    simp only [textF, preF, List.flatMap_cons, List.flatMap_append, ← hk, ← hr]
    by_cases h1 : kd = 1
    · subst h1
      obtain rfl := leaf_nil h.1.1
      simp [textF, headT]
    · simp [h1, headT]
/-- The text is the heads, a space between. -/
theorem text_join {d : Nat} {kd sy n : Int} {F : Fo} (h : formX (d + 1) kd sy n F = true) : Lib.join (((kd, sy, n) :: preF F).map headT) [32] = textX kd sy n F := by
  have hj : ∀ (l : List (List UInt8)) (x : List UInt8), Lib.join (x :: l) [32] = x ++ l.flatMap (fun y => 32 :: y) := by
    intro l
    induction l with
    | nil => intro x; simp [Lib.join, List.intercalate]
    | cons y l ih =>
      intro x
      have := ih y
      simp only [Lib.join, List.intercalate, List.intersperse_cons_cons, List.flatten_cons, List.flatMap_cons] at this ⊢
      rw [this]
      simp
  simp only [formX, Bool.and_eq_true] at h
  have hk := text_heads d F h.2
  rw [List.map_cons, hj, List.flatMap_map]
  rw [← hk]
  unfold textX headT
  by_cases h1 : kd = 1
  · subst h1
    obtain rfl := leaf_nil h.1
    simp [textF]
  · simp [h1]

structure KindT (kd sy n : Int) (T : TypeId) (V : Value) (K : Nat) : Prop where
  kind : ∀ w, Calls Tryd.prog 38 #[.int .i64 kd] w fun e w' => e = .returned (.iface T V) ∧ w' = w
  head : ∀ w, Sem.run Tryd.prog (method 226 T V "loop.example/bellman/impl.head") w = .ok (K, V) w
  enter : ∀ x w, Sem.run Tryd.prog (callFunc K #[V, x]) w = .ok (.enter K #[V, x]) w
  head_any : ∀ s w, Calls Tryd.prog K #[V, .agg #[.int .i64 kd, .int .i64 sy, .int .i64 n, s]] w fun e w' => e = .returned (.string ⟨(headT (kd, sy, n)).toArray⟩) ∧ Below w.heap.size w w'

set_option maxHeartbeats 1000000 in
theorem kindT_sym (sy n : Int) (hs : 0 ≤ sy ∧ sy < 5) : KindT 1 sy n 79 (.agg #[]) 83 where
  kind := fun w => by
    go_enter Tryd.func38, Tryd.ntmps38
    go_wp2
    go_ret
    exact ⟨rfl, rfl⟩
  head := fun _ => by kernel_rfl
  enter := fun _ _ => by kernel_rfl
  head_any := fun s w => by
    rcases (show sy = 0 ∨ sy = 1 ∨ sy = 2 ∨ sy = 3 ∨ sy = 4 by omega) with rfl | rfl | rfl | rfl | rfl
    · have hl : ((letB 0).toNat : Int) = 97 := by decide
      have hh : headT (1, 0, n) = [97] := by simp [headT, letB]
      have hcv : ∀ w, (convert 5 9 (.int .u8 97)).run Tryd.prog w = .ok (.string ⟨#[97]⟩) w := fun _ => by kernel_rfl
      have hlet := fun w => letterOf_any 0 w
      rw [hl] at hlet
      rw [hh]
      clear hl hh
      go_enter Tryd.func83, Tryd.ntmps83
      go_wp2_with fail
      refine (hlet _).mono ?_
      rintro e w1 ⟨rfl, hb1⟩
      have hb := (bel2 w (.cells #[] 79) (.cells #[.int .i64 1, .int .i64 0, .int .i64 n, s] 31))
      have hbe := hb.trans (hb1.mono hb.size)
      go_wp2
      go_ret
      exact ⟨rfl, hbe⟩
    · have hl : ((letB 1).toNat : Int) = 98 := by decide
      have hh : headT (1, 1, n) = [98] := by simp [headT, letB]
      have hcv : ∀ w, (convert 5 9 (.int .u8 98)).run Tryd.prog w = .ok (.string ⟨#[98]⟩) w := fun _ => by kernel_rfl
      have hlet := fun w => letterOf_any 1 w
      rw [hl] at hlet
      rw [hh]
      clear hl hh
      go_enter Tryd.func83, Tryd.ntmps83
      go_wp2_with fail
      refine (hlet _).mono ?_
      rintro e w1 ⟨rfl, hb1⟩
      have hb := (bel2 w (.cells #[] 79) (.cells #[.int .i64 1, .int .i64 1, .int .i64 n, s] 31))
      have hbe := hb.trans (hb1.mono hb.size)
      go_wp2
      go_ret
      exact ⟨rfl, hbe⟩
    · have hl : ((letB 2).toNat : Int) = 99 := by decide
      have hh : headT (1, 2, n) = [99] := by simp [headT, letB]
      have hcv : ∀ w, (convert 5 9 (.int .u8 99)).run Tryd.prog w = .ok (.string ⟨#[99]⟩) w := fun _ => by kernel_rfl
      have hlet := fun w => letterOf_any 2 w
      rw [hl] at hlet
      rw [hh]
      clear hl hh
      go_enter Tryd.func83, Tryd.ntmps83
      go_wp2_with fail
      refine (hlet _).mono ?_
      rintro e w1 ⟨rfl, hb1⟩
      have hb := (bel2 w (.cells #[] 79) (.cells #[.int .i64 1, .int .i64 2, .int .i64 n, s] 31))
      have hbe := hb.trans (hb1.mono hb.size)
      go_wp2
      go_ret
      exact ⟨rfl, hbe⟩
    · have hl : ((letB 3).toNat : Int) = 100 := by decide
      have hh : headT (1, 3, n) = [100] := by simp [headT, letB]
      have hcv : ∀ w, (convert 5 9 (.int .u8 100)).run Tryd.prog w = .ok (.string ⟨#[100]⟩) w := fun _ => by kernel_rfl
      have hlet := fun w => letterOf_any 3 w
      rw [hl] at hlet
      rw [hh]
      clear hl hh
      go_enter Tryd.func83, Tryd.ntmps83
      go_wp2_with fail
      refine (hlet _).mono ?_
      rintro e w1 ⟨rfl, hb1⟩
      have hb := (bel2 w (.cells #[] 79) (.cells #[.int .i64 1, .int .i64 3, .int .i64 n, s] 31))
      have hbe := hb.trans (hb1.mono hb.size)
      go_wp2
      go_ret
      exact ⟨rfl, hbe⟩
    · have hl : ((letB 4).toNat : Int) = 101 := by decide
      have hh : headT (1, 4, n) = [101] := by simp [headT, letB]
      have hcv : ∀ w, (convert 5 9 (.int .u8 101)).run Tryd.prog w = .ok (.string ⟨#[101]⟩) w := fun _ => by kernel_rfl
      have hlet := fun w => letterOf_any 4 w
      rw [hl] at hlet
      rw [hh]
      clear hl hh
      go_enter Tryd.func83, Tryd.ntmps83
      go_wp2_with fail
      refine (hlet _).mono ?_
      rintro e w1 ⟨rfl, hb1⟩
      have hb := (bel2 w (.cells #[] 79) (.cells #[.int .i64 1, .int .i64 4, .int .i64 n, s] 31))
      have hbe := hb.trans (hb1.mono hb.size)
      go_wp2
      go_ret
      exact ⟨rfl, hbe⟩

set_option maxHeartbeats 1000000 in
theorem kindT_2 (sy n : Int) : KindT 2 sy n 81 (.agg #[.int .i64 2, .string { data := #[111, 114] }, .int .i64 2]) 87 where
  kind := fun w => by
    go_enter Tryd.func38, Tryd.ntmps38
    go_wp2
    go_ret
    exact ⟨rfl, rfl⟩
  head := fun _ => by kernel_rfl
  enter := fun _ _ => by kernel_rfl
  head_any := fun s w => by
    have hh : headT (2, sy, n) = [111, 114] := by simp [headT, wordB]
    rw [hh]
    clear hh
    go_enter Tryd.func87, Tryd.ntmps87
    go_wp2
    go_ret
    exact ⟨rfl, bel2 _ _ _⟩

set_option maxHeartbeats 1000000 in
theorem kindT_3 (sy n : Int) : KindT 3 sy n 81 (.agg #[.int .i64 3, .string { data := #[97, 110, 100] }, .int .i64 2]) 87 where
  kind := fun w => by
    go_enter Tryd.func38, Tryd.ntmps38
    go_wp2
    go_ret
    exact ⟨rfl, rfl⟩
  head := fun _ => by kernel_rfl
  enter := fun _ _ => by kernel_rfl
  head_any := fun s w => by
    have hh : headT (3, sy, n) = [97, 110, 100] := by simp [headT, wordB]
    rw [hh]
    clear hh
    go_enter Tryd.func87, Tryd.ntmps87
    go_wp2
    go_ret
    exact ⟨rfl, bel2 _ _ _⟩

set_option maxHeartbeats 1000000 in
theorem kindT_4 (sy n : Int) : KindT 4 sy n 81 (.agg #[.int .i64 4, .string { data := #[115, 101, 113] }, .int .i64 2]) 87 where
  kind := fun w => by
    go_enter Tryd.func38, Tryd.ntmps38
    go_wp2
    go_ret
    exact ⟨rfl, rfl⟩
  head := fun _ => by kernel_rfl
  enter := fun _ _ => by kernel_rfl
  head_any := fun s w => by
    have hh : headT (4, sy, n) = [115, 101, 113] := by simp [headT, wordB]
    rw [hh]
    clear hh
    go_enter Tryd.func87, Tryd.ntmps87
    go_wp2
    go_ret
    exact ⟨rfl, bel2 _ _ _⟩

set_option maxHeartbeats 1000000 in
theorem kindT_5 (sy n : Int) : KindT 5 sy n 81 (.agg #[.int .i64 5, .string { data := #[110, 111, 116] }, .int .i64 3]) 87 where
  kind := fun w => by
    go_enter Tryd.func38, Tryd.ntmps38
    go_wp2
    go_ret
    exact ⟨rfl, rfl⟩
  head := fun _ => by kernel_rfl
  enter := fun _ _ => by kernel_rfl
  head_any := fun s w => by
    have hh : headT (5, sy, n) = [110, 111, 116] := by simp [headT, wordB]
    rw [hh]
    clear hh
    go_enter Tryd.func87, Tryd.ntmps87
    go_wp2
    go_ret
    exact ⟨rfl, bel2 _ _ _⟩

set_option maxHeartbeats 1000000 in
theorem kindT_6 (sy n : Int) : KindT 6 sy n 81 (.agg #[.int .i64 6, .string { data := #[101, 97, 99, 104] }, .int .i64 3]) 87 where
  kind := fun w => by
    go_enter Tryd.func38, Tryd.ntmps38
    go_wp2
    go_ret
    exact ⟨rfl, rfl⟩
  head := fun _ => by kernel_rfl
  enter := fun _ _ => by kernel_rfl
  head_any := fun s w => by
    have hh : headT (6, sy, n) = [101, 97, 99, 104] := by simp [headT, wordB]
    rw [hh]
    clear hh
    go_enter Tryd.func87, Tryd.ntmps87
    go_wp2
    go_ret
    exact ⟨rfl, bel2 _ _ _⟩

set_option maxHeartbeats 1000000 in
theorem kindT_plus (sy n : Int) (hn : 1 ≤ n ∧ n ≤ 20) : KindT 7 sy n 82 (.agg #[]) 91 where
  kind := fun w => by
    go_enter Tryd.func38, Tryd.ntmps38
    go_wp2
    go_ret
    exact ⟨rfl, rfl⟩
  head := fun _ => by kernel_rfl
  enter := fun _ _ => by kernel_rfl
  head_any := fun s w => by
    obtain ⟨m, rfl⟩ := Int.eq_ofNat_of_zero_le (show 0 ≤ n by omega)
    have hm : m < 100 := by omega
    have hh : headT (7, sy, (m : Int)) = [112, 108, 117, 115, 32] ++ Lib.decDigits m := by
      have : Lib.itoa (m : Int) = Lib.decDigits m := by unfold Lib.itoa; rw [if_neg (by omega)]; simp
      simp [headT, wordB, this]
    rw [hh]
    have hdl : ¬ 9223372036854775807 < 5 + (Lib.decDigits m).length := by
      have h21 := Lib.itoa_length_le (m : Int) (by omega) (by omega)
      have : Lib.itoa (m : Int) = Lib.decDigits m := by unfold Lib.itoa; rw [if_neg (by omega)]; simp
      rw [this] at h21
      omega
    clear hh
    go_enter Tryd.func91, Tryd.ntmps91
    go_wp2_with fail
    refine (Tryd.strconv_Itoa_small m hm _).mono ?_
    rintro e w1 ⟨rfl, rfl⟩
    go_wp2
    go_ret
    exact ⟨rfl, bel2 _ _ _⟩

theorem kindT_any {kd sy n : Int} (h : Good kd sy n) : ∃ T V K, KindT kd sy n T V K := by
  obtain ⟨h1, h7, hs, hn⟩ := h
  rcases (show kd = 1 ∨ kd = 2 ∨ kd = 3 ∨ kd = 4 ∨ kd = 5 ∨ kd = 6 ∨ kd = 7 by omega) with rfl | rfl | rfl | rfl | rfl | rfl | rfl
  · exact ⟨_, _, _, kindT_sym sy n (hs rfl)⟩
  · exact ⟨_, _, _, kindT_2 sy n⟩
  · exact ⟨_, _, _, kindT_3 sy n⟩
  · exact ⟨_, _, _, kindT_4 sy n⟩
  · exact ⟨_, _, _, kindT_5 sy n⟩
  · exact ⟨_, _, _, kindT_6 sy n⟩
  · exact ⟨_, _, _, kindT_plus sy n (hn rfl)⟩
end Go.Proofs.YtdmcpneppalaiaaDoor
