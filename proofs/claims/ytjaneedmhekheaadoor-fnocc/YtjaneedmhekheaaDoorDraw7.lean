/- The laws' draws of chapter 3: two lists, one or nearly. -/
import Derived.Test.YtjaneedmhekheaaDoorDraw6
namespace Go.Proofs.YtjaneedmhekheaaDoor
open Go.ChangeShapes Go.WideShapes Go.ChangeAt Go.RowKit
set_option linter.unusedVariables false
set_option maxRecDepth 4000
/-- Two lists that were drawn. -/
def TwoLists (w : World) (e : Ending) (w' : World) : Prop :=
  ∃ (a b : Option Addr) (ca cb : Nat) (l l' : List Occ), e = .returned (.tuple #[.slice a l.length ca, .slice b l'.length cb]) ∧ l.length ≤ 7 ∧ l'.length ≤ 8 ∧ Occs w' a l ∧ Occs w' b l' ∧ (∀ o ∈ l, o.Wd) ∧ (∀ o ∈ l', o.Wd) ∧ Below w.heap.size w w'
theorem Loose.keep {w W u : World} {B : Nat} {a : Option Addr} {c : Nat} {L : List OC} (h : Loose w B a c L) (hb : Below w.heap.size w W) (hg : W.grownBy u (Value.slice a L.length c).ownBlock) : ∀ x ∈ L, Ints u x.a x.o.ids := fun x hx =>
  (((h.one x hx).below hb).only hg (fun q hq => (h.off x hx q hq).2)).ints
set_option maxHeartbeats 2000000 in
theorem drawOccsSame_any (a : Option Addr) (cap : Nat) (c : List Int) (w : World) (h : Bytes w a c) (hc : c.length ≤ cap) : Calls Tryd.prog 23 #[.slice a c.length cap] w (TwoLists w) := by
  obtain ⟨i0, hi, hz0, hz1, hz2⟩ := info_occ_parts
  have hlen := h.len
  unfold maxLen at hlen
  go_enter Tryd.func23, Tryd.ntmps23
  go_wp2_with fail
  refine (l14Open_any a cap c w h hc).mono ?_
  rintro e w1 ⟨rfl, hR1, hb1, hs1⟩
  have hlt1 : w.heap.size < w1.heap.size := by omega
  clear hs1
  go_wp2_with fail
  refine (l3Bent_any w.heap.size 0 w1 hR1 (by omega)).mono ?_
  rintro e w2 ⟨a2, c2, p2, m2, rfl, hm2, hocc2, _, hR2, hp2, hg2, hwf2, _⟩
  have hb2 : Below w.heap.size w w2 := hb1.grown hg2 hb1.size (fun k hk => by cases hk; exact Nat.le_refl _)
  have hs2 := hg2.size
  go_wp2_with fail
  refine (l14Open_any a cap c w2 (h.below hb2) hc).mono ?_
  rintro e w3 ⟨rfl, hR3, hb3, hs3⟩
  have hlt3 : w2.heap.size < w3.heap.size := by omega
  clear hs3
  go_wp2_with fail
  refine (l3Bent_any w2.heap.size 0 w3 hR3 (by omega)).mono ?_
  rintro e w4 ⟨a4, c4, p4, m4, rfl, hm4, hocc4, hage4, hR4, hp4, hg4, hwf4, L4, hL4, hrow4⟩
  have hb34 : Below w2.heap.size w2 w4 := hb3.grown hg4 hb3.size (fun k hk => by cases hk; exact Nat.le_refl _)
  have hb4 := hb2.trans (hb34.mono hb2.size)
  have hb4' := h.below hb4
  have hs4 := hg4.size
  have Hocc2 : Hid (∀ u : World, Below w2.heap.size w2 u → Occs u a2 m2) := fun u hu => hocc2 u hu.size (fun i _ h2 => hu.block i h2)
  have Hocc4 : Hid (Occs w4 a4 m4) := hocc4 w4 (Nat.le_refl _) (fun _ _ _ => rfl)
  have Hwf2 : Hid (∀ o ∈ m2, o.Wd) := hwf2
  have Hwf4 : Hid (∀ o ∈ m4, o.Wd) := hwf4
  have HL4 : Hid (m4 = L4.map (·.o)) := hL4
  have hlen4 : L4.length = m4.length := by rw [hL4]; simp
  have hkeep : Hid (TwoLists w (.returned (.tuple #[.slice a2 (List.length m2) c2, .slice a4 (List.length m4) c4])) w4) := ⟨a2, a4, c2, c4, m2, m4, rfl, hm2, by omega, Hocc2.out w4 hb34, Hocc4.out, hwf2, hwf4, hb4⟩
  obtain ⟨n4, hn4⟩ : ∃ n, m4.length = n := ⟨_, rfl⟩
  rw [hn4] at hlen4 hm4
  have Hn4 : Hid (m4.length = n4) := hn4
  rw [hn4] at hkeep ⊢
  clear hocc2 hocc4 hwf2 hwf4 hL4 hage4 hn4
  cases c with
  | nil =>
    simp only [List.length_nil] at *
    go_wp2
    go_ret2
    exact hkeep.out
  | cons b0 bs =>
    obtain ⟨N, hN⟩ : ∃ N, (b0 :: bs).length = N := ⟨_, rfl⟩
    have hN0 : 0 < N := by rw [← hN]; simp
    obtain ⟨b, off, rfl, hbl, hcc⟩ := hb4'.cells (by simp)
    obtain ⟨e0, e1, e2⟩ := hcc 0 (by simp)
    simp only [List.getElem_cons_zero, Nat.add_zero] at e0
    rw [hN] at hc hlen ⊢
    have hN0' : (0 : Int) < (N : Int) := by omega
    clear hN hcc
    by_cases hr : b0.tmod 2 = 1
    · have hr' : (b0.tmod 2 == 1) = true := by simpa using hr
      have hlit := own_lit (w := w4) (B := w4.heap.size) [1] 3 (Nat.le_refl _) (by simp)
      have hb5 : Below w4.heap.size w4 ((w4.alloc (.cells #[.int .i64 1] 3)).alloc (.cells #[.int .i64 1, .int .i64 999, .slice (some ⟨w4.heap.size, 0, none⟩) 1 1] 25)) := below_two w4 _ _
      have hrow5 : ((w4.alloc (.cells #[.int .i64 1] 3)).alloc (.cells #[.int .i64 1, .int .i64 999, .slice (some ⟨w4.heap.size, 0, none⟩) 1 1] 25)).ownsRow w3.heap.size 25 3 (.slice a4 n4 c4) n4 (ocCells L4) := by
        have := hrow4.row
        rw [hlen4] at this
        exact pOwns_below this hb5
      have hnew : ∀ j u, ((⟨⟨1, 999, [1]⟩, some ⟨w4.heap.size, 0, none⟩, 1⟩ : OC).v)[j]? = some u → ((w4.alloc (.cells #[.int .i64 1] 3)).alloc (.cells #[.int .i64 1, .int .i64 999, .slice (some ⟨w4.heap.size, 0, none⟩) 1 1] 25)).cell? ((⟨w4.heap.size + 1, 0, none⟩ : Addr).add j) = some u := by
        have := new_occ (w4.alloc (.cells #[.int .i64 1] 3)) (⟨⟨1, 999, [1]⟩, some ⟨w4.heap.size, 0, none⟩, 1⟩ : OC) 25
        simpa using this
      go_wp2_with (at_builtin; refine wpList_append_where rfl _ _ 30 rfl w3.heap.size 25 i0 (.agg #[.int .i64 0, .int .i64 0, .slice none 0 0]) 3 40 Tryd.underlying30 hi hz0 hz1 hz2 rfl (by decide) (.slice a4 n4 c4) n4 (ocCells L4) rfl hrow5 ⟨w4.heap.size + 1, 0, none⟩ 1 1 ((⟨⟨1, 999, [1]⟩, some ⟨w4.heap.size, 0, none⟩, 1⟩ : OC).v) rfl rfl hnew ?c2 ?c3 ?c4 ?c5 ?_)
      case c2 => exact ocv_one _
      case c3 => unfold maxLen; omega
      case c4 => omega
      case c5 => simp; omega
      intro v6 w6 r1 r2 r3
      obtain ⟨a6, c6, rfl⟩ := pOwns_slice r1
      have hI5 := hlit.below (oBelow_new (w4.alloc (.cells #[.int .i64 1] 3)) (.cells #[.int .i64 1, .int .i64 999, .slice (some ⟨w4.heap.size, 0, none⟩) 1 1] 25))
      have hrow4' := hrow4.row
      have hkeep4 := hrow4.keep hb5 (u := w6)
      rw [hlen4] at hrow4' hkeep4
      have hxne : (Value.slice a4 n4 c4).ownBlock ≠ some w4.heap.size := fun e => by
        have := (hrow4'.lt _ e).2
        omega
      have hI6 : Ints w6 (some ⟨w4.heap.size, 0, none⟩) [1] := (hI5.only r2 (fun q hq => by cases hq; exact hxne)).ints
      have hIL := hkeep4 r2
      have hocc6 : Occs w6 a6 (m4 ++ [⟨1, 999, [1]⟩]) := by
        have := row_occs (L := L4 ++ [(⟨⟨1, 999, [1]⟩, some ⟨w4.heap.size, 0, none⟩, 1⟩ : OC)]) (w := w6) (B := w3.heap.size) (a := a6) (n := n4 + 1) (cap := c6) (by rw [ocCells_snoc, List.length_append, hlen4]; exact r1) (fun z hz => by
          rcases List.mem_append.1 hz with hz | hz
          · exact hIL z hz
          · simp only [List.mem_singleton] at hz
            subst hz
            exact hI6)
        rw [HL4.out]
        simpa using this
      have hb26 : Below w2.heap.size w2 w6 := (hb34.trans (hb5.mono hb34.size)).grown r2 (hb34.trans (hb5.mono hb34.size)).size (fun q hq => by
        have := (hrow5.lt q hq).1
        omega)
      have hfin : Hid (TwoLists w (.returned (.tuple #[.slice a2 (List.length m2) c2, .slice a6 (n4 + 1) c6])) w6) :=
        ⟨a2, a6, c2, c6, m2, m4 ++ [⟨1, 999, [1]⟩], by rw [List.length_append, Hn4.out]; rfl, hm2, by rw [List.length_append, Hn4.out]; simp; omega, Hocc2.out w6 hb26, hocc6, Hwf2.out, fun o ho => by
          rcases List.mem_append.1 ho with ho | ho
          · exact Hwf4.out o ho
          · simp only [List.mem_singleton] at ho
            subst ho
            exact ⟨⟨by simp [I64], by simp [I64], by simp [I64]⟩, by simp⟩, hb2.trans (hb26.mono hb2.size)⟩
      clear hI5 hrow4' hkeep4 hxne hI6 hIL hocc6 hb26 hlit hb5 hrow5 hnew
      go_wp2
      go_ret2
      exact hfin.out
    · have hr' : (b0.tmod 2 == 1) = false := by simpa using hr
      go_wp2
      go_ret2
      exact hkeep.out
end Go.Proofs.YtjaneedmhekheaaDoor
