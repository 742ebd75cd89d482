/- The kinds of what is looked for, as the program has them: values behind an interface. -/
import Derived.Test.YtpokhhplgljmiaaDoorEx5
import Derived.Test.YtpokhhplgljmiaaDoorErr
import Derived.WalkSmall
namespace Go.Proofs.YtpokhhplgljmiaaDoor
open Go.ChangeShapes Go.WideShapes Go.ChangeAt Go.RowKit
set_option linter.unusedVariables false

/-- Sym and N are those of such a part. -/
def fitsB (kd sy n : Int) : Bool := if kd = 1 then decide (0 ≤ sy ∧ sy ≤ 4 ∧ n = 0) else if kd = 7 then decide (sy = 0 ∧ 1 ≤ n ∧ n ≤ 20) else decide (sy = 0 ∧ n = 0)

structure Kind (kd : Int) (T : TypeId) (V : Value) (K1 K2 : Nat) : Prop where
  kids : ∀ w, Sem.run Tryd.prog (method 249 T V "loop.example/bellman/impl.kids") w = .ok (K1, V) w
  fits : ∀ w, Sem.run Tryd.prog (method 249 T V "loop.example/bellman/impl.fits") w = .ok (K2, V) w
  enter1 : ∀ w, Sem.run Tryd.prog (callFunc K1 #[V]) w = .ok (.enter K1 #[V]) w
  enter2 : ∀ x w, Sem.run Tryd.prog (callFunc K2 #[V, x]) w = .ok (.enter K2 #[V, x]) w
  kids_any : ∀ w, Calls Tryd.prog K1 #[V] w fun e w' => e = .returned (.int .i64 (kidsOf kd)) ∧ Below w.heap.size w w'
  fits_any : ∀ sy n s w, Calls Tryd.prog K2 #[V, .agg #[.int .i64 kd, .int .i64 sy, .int .i64 n, s]] w fun e w' => e = .returned (.bool (fitsB kd sy n)) ∧ Below w.heap.size w w'

theorem bel2 (w : World) (o o' : Obj) : Below w.heap.size w ((w.alloc o).alloc o') := ((Below.refl _ _).alloc (Nat.le_refl _) _).alloc (by simp) _
theorem bel1 (w : World) (o : Obj) : Below w.heap.size w (w.alloc o) := (Below.refl _ _).alloc (Nat.le_refl _) _

set_option maxHeartbeats 400000 in
theorem kindSym : Kind 1 66 (.agg #[]) 83 81 where
  kids := fun _ => by kernel_rfl
  fits := fun _ => by kernel_rfl
  enter1 := fun _ => by kernel_rfl
  enter2 := fun _ _ => by kernel_rfl
  kids_any := fun w => by
    go_enter Tryd.func83, Tryd.ntmps83
    go_wp2
    go_ret
    exact ⟨rfl, bel1 _ _⟩
  fits_any := fun sy n s w => by
    by_cases h1 : 0 ≤ sy ∧ sy ≤ 4
    · have hd : (decide (0 ≤ sy) && decide (sy ≤ 4)) = true := by simpa using h1
      have hw := fun w => within_any sy 0 4 w
      rw [hd] at hw
      by_cases h2 : n = 0
      · have hx : fitsB 1 sy n = true := by simp [fitsB, h1, h2]
        rw [hx]
        have b2 : (n == 0) = true := by simpa using h2
        clear h1 h2 hd hx
        go_enter Tryd.func81, Tryd.ntmps81
        go_wp2_with fail
        refine (hw _).mono ?_
        rintro e w1 ⟨rfl, rfl⟩
        go_wp2
        go_ret
        exact ⟨rfl, bel2 _ _ _⟩
      · have hx : fitsB 1 sy n = false := by simp [fitsB, h2]
        rw [hx]
        have b2 : (n == 0) = false := by simpa using h2
        clear h1 h2 hd hx
        go_enter Tryd.func81, Tryd.ntmps81
        go_wp2_with fail
        refine (hw _).mono ?_
        rintro e w1 ⟨rfl, rfl⟩
        go_wp2
        go_ret
        exact ⟨rfl, bel2 _ _ _⟩
    · have hd : (decide (0 ≤ sy) && decide (sy ≤ 4)) = false := by simp; omega
      have hw := fun w => within_any sy 0 4 w
      rw [hd] at hw
      have hx : fitsB 1 sy n = false := by simp [fitsB]; omega
      rw [hx]
      clear h1 hd hx
      go_enter Tryd.func81, Tryd.ntmps81
      go_wp2_with fail
      refine (hw _).mono ?_
      rintro e w1 ⟨rfl, rfl⟩
      go_wp2
      go_ret
      exact ⟨rfl, bel2 _ _ _⟩

set_option maxHeartbeats 400000 in
theorem kindPlus : Kind 7 69 (.agg #[]) 94 92 where
  kids := fun _ => by kernel_rfl
  fits := fun _ => by kernel_rfl
  enter1 := fun _ => by kernel_rfl
  enter2 := fun _ _ => by kernel_rfl
  kids_any := fun w => by
    go_enter Tryd.func94, Tryd.ntmps94
    go_wp2
    go_ret
    exact ⟨rfl, bel1 _ _⟩
  fits_any := fun sy n s w => by
    by_cases h2 : sy = 0
    · have b2 : (sy == 0) = true := by simpa using h2
      have hx : fitsB 7 sy n = (decide (1 ≤ n) && decide (n ≤ 20)) := by simp [fitsB, h2]
      rw [hx]
      have hw := fun w => within_any n 1 20 w
      revert hw
      generalize (decide (1 ≤ n) && decide (n ≤ 20)) = q
      intro hw
      clear hx
      subst h2
      go_enter Tryd.func92, Tryd.ntmps92
      go_wp2_with fail
      refine (hw _).mono ?_
      rintro e w1 ⟨rfl, rfl⟩
      go_wp2
      go_ret
      exact ⟨rfl, bel2 _ _ _⟩
    · have b2 : (sy == 0) = false := by simpa using h2
      have hx : fitsB 7 sy n = false := by simp [fitsB, h2]
      rw [hx]
      clear hx h2
      go_enter Tryd.func92, Tryd.ntmps92
      go_wp2
      go_ret
      exact ⟨rfl, bel2 _ _ _⟩

set_option maxHeartbeats 400000 in
theorem kindJoin (kd many : Int) (s : ByteArray) (h1 : kd ≠ 1) (h7 : kd ≠ 7) (hk : kidsOf kd = many) : Kind kd 68 (.agg #[.int .i64 kd, .string s, .int .i64 many]) 90 88 where
  kids := fun _ => by kernel_rfl
  fits := fun _ => by kernel_rfl
  enter1 := fun _ => by kernel_rfl
  enter2 := fun _ _ => by kernel_rfl
  kids_any := fun w => by
    rw [hk]
    go_enter Tryd.func90, Tryd.ntmps90
    go_wp2
    go_ret
    exact ⟨rfl, bel1 _ _⟩
  fits_any := fun sy n sl w => by
    by_cases h2 : sy = 0
    · by_cases h3 : n = 0
      · have hx : fitsB kd sy n = true := by simp [fitsB, h1, h7, h2, h3]
        rw [hx]
        have b3 : (n == 0) = true := by simpa using h3
        have b2 : (sy == 0) = true := by simpa using h2
        clear hx h2 h3
        go_enter Tryd.func88, Tryd.ntmps88
        go_wp2
        go_ret
        exact ⟨rfl, bel2 _ _ _⟩
      · have hx : fitsB kd sy n = false := by simp [fitsB, h1, h7, h3]
        rw [hx]
        have b3 : (n == 0) = false := by simpa using h3
        have b2 : (sy == 0) = true := by simpa using h2
        clear hx h2 h3
        go_enter Tryd.func88, Tryd.ntmps88
        go_wp2
        go_ret
        exact ⟨rfl, bel2 _ _ _⟩
    · have hx : fitsB kd sy n = false := by simp [fitsB, h1, h7, h2]
      rw [hx]
      have b2 : (sy == 0) = false := by simpa using h2
      clear hx h2
      go_enter Tryd.func88, Tryd.ntmps88
      go_wp2
      go_ret
      exact ⟨rfl, bel2 _ _ _⟩

set_option maxHeartbeats 1000000 in
/-- exKindOf: a kind, or a panic. -/
theorem kindOf_any (kd : Int) (w : World) (t : TypeId) (v : Value) (hE : ErrAt w t v) :
    (1 ≤ kd ∧ kd ≤ 7 ∧ ∃ T V K1 K2, Kind kd T V K1 K2 ∧ ∀ w, Calls Tryd.prog 21 #[.int .i64 kd] w fun e w' => e = .returned (.iface T V) ∧ w' = w) ∨
    (¬ (1 ≤ kd ∧ kd ≤ 7) ∧ Calls Tryd.prog 21 #[.int .i64 kd] w fun e w' => e = .panicked [{ v := .iface t v, recovered := false }] ∧ w' = w) := by
  rcases (show kd = 1 ∨ kd = 2 ∨ kd = 3 ∨ kd = 4 ∨ kd = 5 ∨ kd = 6 ∨ kd = 7 ∨ (kd ≠ 1 ∧ kd ≠ 2 ∧ kd ≠ 3 ∧ kd ≠ 4 ∧ kd ≠ 5 ∧ kd ≠ 6 ∧ kd ≠ 7) by omega) with rfl | rfl | rfl | rfl | rfl | rfl | rfl | ⟨h1, h2, h3, h4, h5, h6, h7⟩
  · refine .inl ⟨by omega, by omega, _, _, _, _, kindSym, fun w => ?_⟩
    go_enter Tryd.func21, Tryd.ntmps21
    go_wp2
    go_ret
    exact ⟨rfl, rfl⟩
  · refine .inl ⟨by omega, by omega, _, _, _, _, kindJoin 2 2 { data := #[111, 114] } (by omega) (by omega) (by decide), fun w => ?_⟩
    go_enter Tryd.func21, Tryd.ntmps21
    go_wp2
    go_ret
    exact ⟨rfl, rfl⟩
  · refine .inl ⟨by omega, by omega, _, _, _, _, kindJoin 3 2 { data := #[97, 110, 100] } (by omega) (by omega) (by decide), fun w => ?_⟩
    go_enter Tryd.func21, Tryd.ntmps21
    go_wp2
    go_ret
    exact ⟨rfl, rfl⟩
  · refine .inl ⟨by omega, by omega, _, _, _, _, kindJoin 4 2 { data := #[115, 101, 113] } (by omega) (by omega) (by decide), fun w => ?_⟩
    go_enter Tryd.func21, Tryd.ntmps21
    go_wp2
    go_ret
    exact ⟨rfl, rfl⟩
  · refine .inl ⟨by omega, by omega, _, _, _, _, kindJoin 5 3 { data := #[110, 111, 116] } (by omega) (by omega) (by decide), fun w => ?_⟩
    go_enter Tryd.func21, Tryd.ntmps21
    go_wp2
    go_ret
    exact ⟨rfl, rfl⟩
  · refine .inl ⟨by omega, by omega, _, _, _, _, kindJoin 6 3 { data := #[101, 97, 99, 104] } (by omega) (by omega) (by decide), fun w => ?_⟩
    go_enter Tryd.func21, Tryd.ntmps21
    go_wp2
    go_ret
    exact ⟨rfl, rfl⟩
  · refine .inl ⟨by omega, by omega, _, _, _, _, kindPlus, fun w => ?_⟩
    go_enter Tryd.func21, Tryd.ntmps21
    go_wp2
    go_ret
    exact ⟨rfl, rfl⟩
  · refine .inr ⟨by omega, ?_⟩
    have b1 : (kd == 1) = false := by simpa using h1
    have b2 : (kd == 2) = false := by simpa using h2
    have b3 : (kd == 3) = false := by simpa using h3
    have b4 : (kd == 4) = false := by simpa using h4
    have b5 : (kd == 5) = false := by simpa using h5
    have b6 : (kd == 6) = false := by simpa using h6
    have b7 : (kd == 7) = false := by simpa using h7
    have hE' : w.cell? ⟨0, 0, none⟩ = some (.iface t v) := hE
    clear h1 h2 h3 h4 h5 h6 h7
    go_enter Tryd.func21, Tryd.ntmps21
    go_wp2
    exact ⟨rfl, rfl, rfl⟩
end Go.Proofs.YtpokhhplgljmiaaDoor
