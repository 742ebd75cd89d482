/- The place of one in a list that ascends, by halves: the program's. -/
import Derived.Test.YtmomoboedoljfaaOr1
namespace Go.Proofs.Ytmomoboedoljfaa
open Go.ChangeShapes Go.WideShapes Go.ChangeAt Go.RowKit
set_option linter.unusedVariables false
set_option maxRecDepth 4000

theorem placeF_is {o : Occ} : ∀ {l : List Occ} {K : Nat} (hK : K ≤ l.length), (∀ i (h : i < K), ocmp (l[i]'(Nat.lt_of_lt_of_le h hK)) o < 0) → (∀ h : K < l.length, ¬ ocmp l[K] o < 0) → placeF o l = K
  | [], K, hK, _, _ => by simp at hK; subst hK; rfl
  | x :: r, 0, hK, _, h2 => by
    have := h2 (by simp)
    unfold placeF
    rw [if_neg (by rw [oLess_iff]; simpa using this)]
  | x :: r, K + 1, hK, h1, h2 => by
    have hx := h1 0 (by omega)
    unfold placeF
    rw [if_pos (by rw [oLess_iff]; simpa using hx)]
    congr 1
    exact placeF_is (by simpa using hK) (fun i h => by have := h1 (i + 1) (by omega); simpa using this) (fun h => by have := h2 (by simpa using h); simpa using this)
theorem AscO.lt {l : List Occ} (h : AscO l) {i j : Nat} (hij : i < j) (hj : j < l.length) : ocmp (l[i]'(by omega)) l[j] < 0 := List.pairwise_iff_getElem.1 h i j (by omega) hj hij

set_option maxHeartbeats 1000000 in
theorem occPlace_any (a : Option Addr) (cap : Nat) (l : List Occ) (o : Occ) (p : Option Addr) (cp : Nat) (w : World) (h : Occs w a l) (ho : Ints w p o.ids) (hA : AscO l) (hn : l.length ≤ 100000) :
    Calls Try.prog 25 #[.slice a l.length cap, .agg #[.int .i64 o.fr, .int .i64 o.tl, .slice p o.ids.length cp], .func (.func 16) #[] #[]] w
      fun e w' => e = .returned (.tuple #[.int .i64 (placeF o l : Nat), .bool (sameAt o l)]) ∧ Below w.heap.size w w' := by
  obtain ⟨w0, hw0⟩ : ∃ w0, w.alloc (.cells #[.int .i64 o.fr, .int .i64 o.tl, .slice p o.ids.length cp] 32) = w0 := ⟨_, rfl⟩
  have hX0 := box3_new w (.int .i64 o.fr) (.int .i64 o.tl) (.slice p o.ids.length cp) 32
  have hb0 := oBelow_new w (.cells #[.int .i64 o.fr, .int .i64 o.tl, .slice p o.ids.length cp] 32)
  rw [hw0] at hX0 hb0
  go_enter Try.func25, Try.ntmps25
  go_wp2
  go_loopw [8, 9, 10, 11] (fun lo hi _ _ wr => ∃ x y : Nat, lo = .int .i64 x ∧ hi = .int .i64 y ∧ x ≤ y ∧ y ≤ l.length ∧ (∀ i (h : i < l.length), i < x → ocmp l[i] o < 0) ∧ (∀ i (h : i < l.length), y ≤ i → 0 < ocmp l[i] o) ∧ Below w0.heap.size w0 wr) (fun lo hi _ _ _ => (intOf hi).toNat - (intOf lo).toNat)
  case atStart => exact ⟨0, l.length, rfl, rfl, Nat.zero_le _, Nat.le_refl _, fun i h hi => absurd hi (Nat.not_lt_zero i), fun i h hi => absurd h (by omega), Below.refl _ _⟩
  case round =>
    obtain ⟨x, y, rfl, rfl, hxy, hyl, hlo, hhi, hb⟩ := hrel
    have hbw := hb0.trans (hb.mono hb0.size)
    by_cases hlt : x < y
    · obtain ⟨H, hH⟩ : ∃ H : Nat, x + (y - x) / 2 = H := ⟨_, rfl⟩
      have hH1 : x ≤ H := by omega
      have hH2 : H < y := by omega
      have hHi : (x : Int) + ((y : Int) - (x : Int)).tdiv 2 = (H : Int) := by
        rw [Int.tdiv_eq_ediv_of_nonneg (by omega)]; omega
      have hHl : H < l.length := by omega
      obtain ⟨b, off, q, cq, rfl, hbl, c0, c1, c2, hids⟩ := (h.below hbw).at hHl
      obtain ⟨x0, x1, x2⟩ := (hX0.below hb).cells
      have hxl := (hX0.below hb).lt
      have f0 := fun u : After wr => u.cell x0 hxl
      have f1 := fun u : After wr => u.cell x1 hxl
      have f2 := fun u : After wr => u.cell x2 hxl
      have hio := ho.below hbw
      have hup : ∀ i (h : i < l.length), i < H → ocmp l[i] l[H] < 0 := fun i h hi => hA.lt hi hHl
      have hdn : ∀ i (h : i < l.length), H < i → ocmp l[H] l[i] < 0 := fun i h hi => hA.lt hi h
      have hgen : ∃ z, l[H] = z := ⟨_, rfl⟩
      obtain ⟨z, hz⟩ := hgen
      rw [hz] at c0 c1 c2 hids
      have a0 := fun u : After wr => u.cell c0 hbl
      have a1 := fun u : After wr => u.cell c1 hbl
      have a2 := fun u : After wr => u.cell c2 hbl
      have hcall := fun (u : After wr) => calls_after (u := u) (occCompare_any z.fr z.tl q cq z.ids o.fr o.tl p cp o.ids u.v (hids.below u.h) (hio.below u.h))
      obtain ⟨C, hC⟩ : ∃ C, occCmp z.fr z.tl z.ids o.fr o.tl o.ids = C := ⟨_, rfl⟩
      have HC : Hid (ocmp l[H] o = C) := by show _ = _; rw [hz]; exact hC
      rw [hC] at hcall
      clear hC hz
      have hany := after_any
      have Hlo : Hid (∀ i (h : i < l.length), i < x → ocmp l[i] o < 0) := hlo
      have Hhi : Hid (∀ i (h : i < l.length), y ≤ i → 0 < ocmp l[i] o) := hhi
      have Hup : Hid (∀ i (h : i < l.length), i < H → ocmp l[i] l[H] < 0) := hup
      have Hdn : Hid (∀ i (h : i < l.length), H < i → ocmp l[H] l[i] < 0) := hdn
      have Hxy : Hid (x + (y - x) / 2 = H) := hH
      clear hlo hhi hup hdn hH
      rcases Int.lt_trichotomy C 0 with hneg | rfl | hpos
      · have hne : ¬ (C = 0) := by omega
        have hneb : (C == 0) = false := by simpa using hne
        go_wp2
        refine wp_region_after (by kernel_rfl) (by kernel_rfl) ?_
        repeat (go_big_quiet_step ((go_at_call 16; refine hcall _)))
        refine wpQuiet_nil ?_
        intro w1 hu
        have hb1 := after_of hu
        have hbe := hb.trans (hb1.mono hb.size)
        clear hu hcall a0 a1 a2 f0 f1 f2
        go_wp2
        refine ⟨⟨H + 1, y, by go_num, rfl, by omega, hyl, fun i hi hiH => ?_, Hhi.out, hbe⟩, by simp [intOf]; omega⟩
        by_cases e : i = H
        · subst e; rw [HC.out]; exact hneg
        · exact ocmp_trans _ _ _ (Hup.out i hi (by omega)) (by rw [HC.out]; exact hneg)
      · have hpl : placeF o l = H := placeF_is (Nat.le_of_lt hHl) (fun i hi => by
          have := Hup.out i (by omega) hi
          have e := (ocmp_zero _ _).1 HC.out
          rw [e] at this; exact this) (fun hh => by rw [HC.out]; omega)
        have hsm : sameAt o l = true := by
          rw [sameAt_in (by omega)]
          refine (oEqB_iff _ _).2 ?_
          have e := (ocmp_zero _ _).1 HC.out
          simp only [hpl]
          exact e
        have Hpl : Hid (placeF o l = H) := hpl
        have Hsm : Hid (sameAt o l = true) := hsm
        clear hpl hsm
        go_wp2
        refine wp_region_after (by kernel_rfl) (by kernel_rfl) ?_
        repeat (go_big_quiet_step ((go_at_call 16; refine hcall _)))
        refine wpQuiet_nil ?_
        intro w1 hu
        have hb1 := after_of hu
        have hbe := hb.trans (hb1.mono hb.size)
        clear hu hcall a0 a1 a2 f0 f1 f2
        go_wp2
        go_ret2
        exact ⟨by rw [Hpl.out, Hsm.out]; rfl, hb0.trans (hbe.mono hb0.size)⟩
      · have hne : ¬ (C = 0) := by omega
        have hneb : (C == 0) = false := by simpa using hne
        have hnlt : ¬ (C < 0) := by omega
        go_wp2
        refine wp_region_after (by kernel_rfl) (by kernel_rfl) ?_
        repeat (go_big_quiet_step ((go_at_call 16; refine hcall _)))
        refine wpQuiet_nil ?_
        intro w1 hu
        have hb1 := after_of hu
        have hbe := hb.trans (hb1.mono hb.size)
        clear hu hcall a0 a1 a2 f0 f1 f2
        go_wp2
        refine ⟨⟨x, H, rfl, rfl, by omega, by omega, Hlo.out, fun i hi hiH => ?_, hbe⟩, by simp [intOf]; omega⟩
        by_cases e : i = H
        · subst e; rw [HC.out]; exact hpos
        · have h1 := Hdn.out i hi (by omega)
          have h2 := ocmp_flip l[H] o
          have h3 : ocmp o l[i] < 0 := ocmp_trans _ _ _ (by rw [h2, HC.out]; omega) h1
          have h4 := ocmp_flip o l[i]
          omega
    · obtain rfl : x = y := by omega
      have hpl : placeF o l = x := placeF_is hyl (fun i hi => hlo i (by omega) hi) (fun hh => by have := hhi x hh (Nat.le_refl _); omega)
      have hsm : sameAt o l = false := by
        by_cases hh : x < l.length
        · rw [sameAt_in (by omega), Bool.eq_false_iff]
          intro e
          have e' := (oEqB_iff _ _).1 e
          simp only [hpl] at e'
          have := hhi x hh (Nat.le_refl _)
          rw [(ocmp_zero _ _).2 e'] at this
          omega
        · exact sameAt_out (by omega)
      have Hpl : Hid (placeF o l = x) := hpl
      have Hsm : Hid (sameAt o l = false) := hsm
      clear hpl hsm hlo hhi
      go_wp2
      go_ret2
      exact ⟨by rw [Hpl.out, Hsm.out]; rfl, hbw⟩
end Go.Proofs.Ytmomoboedoljfaa
