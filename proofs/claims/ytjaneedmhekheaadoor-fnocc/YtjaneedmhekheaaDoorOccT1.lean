/- The text of places; the specification writes it. -/
import Derived.Test.YtjaneedmhekheaaDoorOccs2
import Derived.Test.YtjaneedmhekheaaDoorDec
import Derived.Test.YtjaneedmhekheaaDoorAfter
namespace Go.Proofs.YtjaneedmhekheaaDoor
open Go.ChangeShapes Go.WideShapes Go.ChangeAt Go.RowKit
set_option linter.unusedVariables false
set_option maxRecDepth 4000

/-- A row of texts with one sign between. -/
def sepText {α : Type} (c : UInt8) (f : α → List UInt8) : List α → List UInt8
  | [] => []
  | e :: r => f e ++ r.flatMap (fun x => c :: f x)
theorem sepText_zero {α : Type} (c : UInt8) (f : α → List UInt8) {l : List α} {k : Nat} (h : k < l.length) (h0 : ¬ 0 < k) : sepText c f (l.take (k + 1)) = sepText c f (l.take k) ++ f l[k] := by
  obtain rfl : k = 0 := by omega
  match l, h with
  | e :: r, _ => simp [sepText]
theorem sepText_succ {α : Type} (c : UInt8) (f : α → List UInt8) {l : List α} {k : Nat} (h : k < l.length) (h0 : 0 < k) : sepText c f (l.take (k + 1)) = sepText c f (l.take k) ++ c :: f l[k] := by
  match l, h with
  | e :: r, h =>
    obtain ⟨j, rfl⟩ : ∃ j, k = j + 1 := ⟨k - 1, by omega⟩
    simp only [List.length_cons] at h
    simp only [List.take_succ_cons, sepText, List.getElem_cons_succ]
    rw [List.take_succ_eq_append_getElem (by omega), List.flatMap_append]
    simp only [List.flatMap_cons, List.flatMap_nil, List.append_nil, List.append_assoc]
theorem sepText_len {α : Type} (c : UInt8) (f : α → List UInt8) (g : α → Nat) : ∀ (l : List α), (∀ e ∈ l, (f e).length ≤ g e) → (sepText c f l).length ≤ (l.map (fun e => g e + 1)).sum
  | [], _ => by simp [sepText]
  | e :: r, h => by
    have h1 := h e (by simp)
    have h2 : ∀ (r : List α), (∀ e ∈ r, (f e).length ≤ g e) → (r.flatMap (fun x => c :: f x)).length ≤ (r.map (fun e => g e + 1)).sum := by
      intro r
      induction r with
      | nil => simp
      | cons x s ih =>
        intro hw
        have a1 := hw x (by simp)
        have a2 := ih (fun e he => hw e (by simp [he]))
        simp only [List.flatMap_cons, List.length_append, List.length_cons, List.map_cons, List.sum_cons]
        omega
    have h3 := h2 r (fun e he => h e (by simp [he]))
    simp only [sepText, List.length_append, List.map_cons, List.sum_cons]
    omega
def idsText : List Int → List UInt8 := sepText 44 Lib.itoa
def occText (o : Occ) : List UInt8 := Lib.itoa o.fr ++ 45 :: (Lib.itoa o.tl ++ 40 :: (idsText o.ids ++ [41]))
def occsText : List Occ → List UInt8 := sepText 32 occText

theorem itoa_len20 {n : Int} (h : I64 n) : (Lib.itoa n).length ≤ 21 := Lib.itoa_length_le n h.1 h.2
theorem idsText_len (l : List Int) (h : ∀ x ∈ l, I64 x) : (idsText l).length ≤ 22 * l.length := by
  have := sepText_len 44 Lib.itoa (fun _ => 21) l (fun e he => itoa_len20 (h e he))
  have e : (l.map (fun _ => 21 + 1)).sum = 22 * l.length := by
    clear this h
    induction l with
    | nil => simp
    | cons o r ih => simp only [List.map_cons, List.sum_cons, ih, List.length_cons]; omega
  unfold idsText
  omega
theorem occText_len (o : Occ) (h : o.Wf) : (occText o).length ≤ 45 + 22 * o.ids.length := by
  have h1 := itoa_len20 h.fr
  have h2 := itoa_len20 h.tl
  have h3 := idsText_len o.ids h.ids
  simp [occText]
  omega
theorem occsText_len (l : List Occ) (h : ∀ o ∈ l, o.Wf) : (occsText l).length ≤ 46 * l.length + 22 * idsTotal l := by
  have := sepText_len 32 occText (fun o => 45 + 22 * o.ids.length) l (fun e he => occText_len e (h e he))
  have e : (l.map (fun e => 45 + 22 * e.ids.length + 1)).sum = 46 * l.length + 22 * idsTotal l := by
    clear this h
    induction l with
    | nil => simp [idsTotal]
    | cons o r ih => simp only [List.map_cons, List.sum_cons, ih, List.length_cons, idsTotal]; omega
  unfold occsText
  omega
theorem idsTotal_take (l : List Occ) (k : Nat) : idsTotal (l.take k) ≤ idsTotal l := by
  induction l generalizing k with
  | nil => simp
  | cons o r ih =>
    cases k with
    | zero => simp [idsTotal]
    | succ k => simp only [List.take_succ_cons, idsTotal]; have := ih k; omega

set_option maxHeartbeats 1000000 in
theorem specOccsText_any (a : Option Addr) (cap : Nat) (l : List Occ) (w : World) (h : Occs w a l) (hn : occsSize l ≤ 1048576) (hw : ∀ o ∈ l, o.Wf) :
    Calls Tryd.prog 16 #[.slice a l.length cap] w fun e w' => e = .returned (.string ⟨(occsText l).toArray⟩) ∧ Below w.heap.size w w' := by
  have hse : occsSize l = l.length + idsTotal l := rfl
  go_enter Tryd.func16, Tryd.ntmps16
  go_wp2
  go_loopw [3, 4, 5] (fun s i q wr => ∃ k : Nat, ∃ t : List UInt8, k ≤ l.length ∧ i = .int .i64 k ∧ s = .string ⟨t.toArray⟩ ∧ Hid (t = occsText (l.take k)) ∧ Below w.heap.size w wr) (fun _ i _ _ => l.length - (intOf i).toNat)
  case atStart => exact ⟨0, [], Nat.zero_le _, rfl, rfl, rfl, Below.refl _ _⟩
  case round =>
    revert hrel
    generalize wr = wo
    intro hrel
    obtain ⟨k, t, hk, rfl, rfl, hr, hb⟩ := hrel
    have htl : t.length ≤ 100000000 := by
      have h1 := occsText_len (l.take k) (fun e he => hw e (List.mem_of_mem_take he))
      rw [hr.out]
      have h2 : (l.take k).length ≤ l.length := List.length_take_le' _ _
      have h3 := idsTotal_take l k
      omega
    by_cases hlt : k < l.length
    · obtain ⟨b, off, p, cp, rfl, hbl, c0, c1, c2, hids⟩ := (h.below hb).at hlt
      have hwf := hw l[k] (List.getElem_mem hlt)
      have hil : l[k].ids.length ≤ 1048576 := by have := idsTotal_get hlt; omega
      have hst : ∃ T : List UInt8, Hid (occsText (l.take (k + 1)) = T ++ occText l[k]) ∧ T.length ≤ 100000001 ∧ (0 < k → (⟨t.toArray⟩ : ByteArray) ++ ⟨#[32]⟩ = ⟨T.toArray⟩) ∧ (¬ 0 < k → t = T) := by
        by_cases hk0 : 0 < k
        · refine ⟨t ++ [32], ?_, by simp; omega, fun _ => ?_, fun h => absurd hk0 h⟩
          · show _ = _; rw [hr.out]; unfold occsText; rw [sepText_succ 32 occText hlt hk0]; simp
          · rw [show (⟨#[32]⟩ : ByteArray) = ⟨[32].toArray⟩ from rfl, ba_app]
        · refine ⟨t, ?_, by omega, fun h => absurd h hk0, fun _ => rfl⟩
          show _ = _; rw [hr.out]; unfold occsText; rw [sepText_zero 32 occText hlt hk0]
      obtain ⟨T, hT, hTl, hT1, hT0⟩ := hst
      have hln := hids.len
      generalize l[k] = o at c0 c1 c2 hids hwf hil hT hln
      have h1 := itoa_len20 hwf.fr
      have h2 := itoa_len20 hwf.tl
      have a0 := fun u : After wo => u.cell c0 hbl
      have a1 := fun u : After wo => u.cell c1 hbl
      have a2 := fun u : After wo => u.cell c2 hbl
      have hb2s := hb.size
      obtain ⟨P, hP⟩ : ∃ P : List UInt8, P = T ++ Lib.itoa o.fr ++ [45] ++ Lib.itoa o.tl ++ [40] := ⟨_, rfl⟩
      have hPP : ((((⟨T.toArray⟩ : ByteArray) ++ ⟨(Lib.itoa o.fr).toArray⟩) ++ ⟨#[45]⟩) ++ ⟨(Lib.itoa o.tl).toArray⟩) ++ ⟨#[40]⟩ = ⟨P.toArray⟩ := by
        rw [hP, show (⟨#[45]⟩ : ByteArray) = ⟨[45].toArray⟩ from rfl, show (⟨#[40]⟩ : ByteArray) = ⟨[40].toArray⟩ from rfl, ba_app, ba_app, ba_app, ba_app]
      have hPl : P.length ≤ 100000100 := by rw [hP]; simp; omega
      have hnx : Hid (occsText (l.take (k + 1)) = P ++ idsText o.ids ++ [41]) := by show _ = _; rw [hT.out, hP]; simp [occText]
      clear hP hT
      have hk0 : ((0 : Int) < (k : Int) ∧ decide (0 < k) = true ∧ (⟨t.toArray⟩ : ByteArray) ++ ⟨#[32]⟩ = ⟨T.toArray⟩) ∨ ((k : Int) ≤ 0 ∧ decide (0 < k) = false ∧ t = T) := by
        by_cases h0 : 0 < k
        · exact .inl ⟨by omega, by simpa using h0, hT1 h0⟩
        · exact .inr ⟨by omega, by simpa using h0, hT0 h0⟩
      clear hT0 hT1 hr
      rcases hk0 with ⟨hk1, hkd, hTT⟩ | ⟨hk1, hkd, rfl⟩
      all_goals
        go_wp2
        have hany := after_any
        refine wp_region_after (by kernel_rfl) (by kernel_rfl) ?_
        repeat (go_big_quiet_step (first | (go_at_call 43; refine calls_after (l14Dec_any _ _ (by first | exact hwf.fr.1 | exact hwf.tl.1) (by first | exact hwf.fr.2 | exact hwf.tl.2)))))
        refine wpQuiet_nil ?_
        intro w1 hu
        have hb1 := after_of hu
        clear hu a0 a1 a2 hany
        have hbw1 := hb.trans (hb1.mono hb.size)
        have d2 := (hb1.cell hbl).trans c2
        have hids1 := hids.below hb1
        have hbl1 : b < w1.heap.size := Nat.lt_of_lt_of_le hbl hb1.size
        clear c0 c1 c2 hids hbl
        go_wp2
        clear hPP
        go_loopw [3, 5] (fun s i wr => ∃ j : Nat, ∃ u : List UInt8, j ≤ o.ids.length ∧ i = .int .i64 j ∧ s = .string ⟨u.toArray⟩ ∧ Hid (u = P ++ idsText (o.ids.take j)) ∧ Below w1.heap.size w1 wr) (fun _ i _ => o.ids.length - (intOf i).toNat)
        case atStart => exact ⟨0, P, Nat.zero_le _, rfl, rfl, by show _ = _; simp [idsText, sepText], Below.refl _ _⟩
        case round =>
          obtain ⟨j, u, hj, rfl, rfl, hru, hbr⟩ := hrel
          have hul : u.length ≤ 200000000 := by
            have h1 := idsText_len (o.ids.take j) (fun e he => hwf.ids e (List.mem_of_mem_take he))
            rw [hru.out]
            have h2 : (o.ids.take j).length ≤ o.ids.length := List.length_take_le' _ _
            simp
            omega
          have e2 := (hbr.cell hbl1).trans d2
          have hbwr := hbw1.trans (hbr.mono hbw1.size)
          by_cases hjl : j < o.ids.length
          · obtain ⟨bi, offi, hpe, hbi, hci⟩ := (hids1.below hbr).cells (by omega)
            have g0 := hci j hjl
            subst hpe
            have hxi := hwf.ids _ (List.getElem_mem hjl)
            have hx21 := itoa_len20 hxi
            by_cases hj0 : 0 < j
            · have hst : Hid (idsText (o.ids.take (j + 1)) = idsText (o.ids.take j) ++ 44 :: Lib.itoa o.ids[j]) := sepText_succ 44 Lib.itoa hjl hj0
              generalize o.ids[j] = x at g0 hxi hx21 hst
              have hj1 : (0 : Int) < (j : Int) := by omega
              clear hci hj0
              go_wp2_with fail
              refine (l14Dec_any _ _ hxi.1 hxi.2).mono ?_
              rintro e w2 ⟨rfl, hb2⟩
              have hbe := hbr.trans (hb2.mono hbr.size)
              go_wp2
              refine ⟨⟨j + 1, u ++ [44] ++ Lib.itoa x, by omega, by go_num, val_str (by rw [show (⟨#[44]⟩ : ByteArray) = ⟨[44].toArray⟩ from rfl, ba_app, ba_app]), ?_, hbe⟩, by simp [intOf]; omega⟩
              show _ = _
              rw [hst.out, hru.out]
              simp
            · have hst : Hid (idsText (o.ids.take (j + 1)) = idsText (o.ids.take j) ++ Lib.itoa o.ids[j]) := sepText_zero 44 Lib.itoa hjl hj0
              generalize o.ids[j] = x at g0 hxi hx21 hst
              have hj1 : (j : Int) ≤ 0 := by omega
              clear hci hj0
              go_wp2_with fail
              refine (l14Dec_any _ _ hxi.1 hxi.2).mono ?_
              rintro e w2 ⟨rfl, hb2⟩
              have hbe := hbr.trans (hb2.mono hbr.size)
              go_wp2
              refine ⟨⟨j + 1, u ++ Lib.itoa x, by omega, by go_num, val_str (by rw [ba_app]), ?_, hbe⟩, by simp [intOf]; omega⟩
              show _ = _
              rw [hst.out, hru.out]
              simp
          · go_wp2
            refine ⟨⟨k + 1, u ++ [41], by omega, by go_num, val_str (by rw [show (⟨#[41]⟩ : ByteArray) = ⟨[41].toArray⟩ from rfl, ba_app]), ?_, hbwr⟩, by simp [intOf]; omega⟩
            show _ = _
            rw [hnx.out, hru.out, List.take_of_length_le (by omega)]
    · go_wp2
      go_ret
      rw [List.take_of_length_le (by omega)] at hr
      exact ⟨ret_str (by rw [hr.out]), hb⟩
end Go.Proofs.YtjaneedmhekheaaDoor
