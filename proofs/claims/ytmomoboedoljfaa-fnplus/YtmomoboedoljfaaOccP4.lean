/- One more put into a list of places of the call's own: the specification's. -/
import Derived.Test.YtmomoboedoljfaaOccP3
import Derived.Deep.RegionLaw
namespace Go.Proofs.Ytmomoboedoljfaa
open Go.ChangeShapes Go.WideShapes Go.ChangeAt Go.RowKit
set_option linter.unusedVariables false
set_option maxRecDepth 4000

/-- What putting one more hands back: the row itself, if it stands there; else a row with it in its place, its numbers in a new row. -/
def PutPost (w : World) (B : Nat) (v : Value) (L : List OC) (o : Occ) (e : Ending) (w' : World) : Prop :=
  ∃ v', e = .returned v' ∧ ((sameAt o (L.map (·.o)) = true ∧ v' = v ∧ Below w.heap.size w w') ∨
    (sameAt o (L.map (·.o)) = false ∧ ∃ a' c', w'.ownsRow B 32 3 v' (L.length + 1) (ocCells (L.take (placeF o (L.map (·.o))) ++ ⟨o, a', c'⟩ :: L.drop (placeF o (L.map (·.o))))) ∧ w.grownBy w' v.ownBlock ∧
      IntOwn w' w.heap.size a' o.ids ∧ (∀ p, a' = some p → p.block < w'.heap.size ∧ v'.ownBlock ≠ some p.block) ∧ ∀ k, v'.ownBlock = some k → v.ownBlock = some k ∨ w.heap.size ≤ k))

/-- Behind the copy: the two appends. -/
theorem put_runs {w w3 w4 : World} {B b K cv nt ct : Nat} {at3 : Addr} {v : Value} {L : List OC} {o : Occ} {a1 : Option Addr} {c1 : Nat} {T2 : Nat}
    (hrow : w4.ownsRow B 32 3 v K (ocCells (L.take K))) (hK : K ≤ L.length) (hL : L.length ≤ 100000) (hB : B ≤ w4.heap.size)
    (htv : w4.ownsRow T2 32 3 (.slice (some at3) nt ct) nt (ocCells (L.drop K))) (hnt : nt = L.length - K) (hT2 : ∀ k, v.ownBlock = some k → k < T2) :
    ∃ v5 w5 v6 w6, (Builtin.append_ #[23, 23] 23 #[v, .slice (some ⟨w4.heap.size, 0, none⟩) 1 1]).run Try.prog (w4.alloc (.cells #[.int .i64 o.fr, .int .i64 o.tl, .slice a1 o.ids.length c1] 32)) = .ok v5 w5 ∧
      (Builtin.append_ #[23, 23] 23 #[v5, .slice (some at3) nt ct]).run Try.prog w5 = .ok v6 w6 ∧ w6.ownsRow B 32 3 v6 (L.length + 1) (ocCells (L.take K ++ ⟨o, a1, c1⟩ :: L.drop K)) ∧
      w4.grownBy w6 v.ownBlock ∧ ∀ k, v6.ownBlock = some k → v.ownBlock = some k ∨ w4.heap.size < k := by
  obtain ⟨i0, hi, hz0, hz1, hz2⟩ := info_occ_parts
  have hal := oBelow_new w4 (.cells #[.int .i64 o.fr, .int .i64 o.tl, .slice a1 o.ids.length c1] 32)
  have hsz : (w4.alloc (.cells #[.int .i64 o.fr, .int .i64 o.tl, .slice a1 o.ids.length c1] 32)).heap.size = w4.heap.size + 1 := by simp
  obtain ⟨v5, w5, hrun5, q1, q2, q3⟩ := oAppend_where (P := Try.prog) (w4.alloc (.cells #[.int .i64 o.fr, .int .i64 o.tl, .slice a1 o.ids.length c1] 32)) B 23 23 32 i0 (.agg #[.int .i64 0, .int .i64 0, .slice none 0 0]) 3 40 Try.underlying23 hi hz0 hz1 hz2 rfl (by decide) v K (ocCells (L.take K)) (pOwns_below hrow hal) ⟨w4.heap.size, 0, none⟩ 1 1 (OC.v ⟨o, a1, c1⟩) rfl (new_occ w4 ⟨o, a1, c1⟩ _) (ocv_one _) (by unfold maxLen; omega) (by omega) (by omega)
  have hne : v5.ownBlock ≠ some at3.block := by
    intro e
    rcases q3 _ e with h | h
    · have h1 := hT2 _ h
      have h2 := (htv.lt at3.block rfl).1
      omega
    · have h2 := (htv.lt at3.block rfl).2
      omega
  have hne' : v.ownBlock ≠ some at3.block := by
    intro e
    have h1 := hT2 _ e
    have h2 := (htv.lt at3.block rfl).1
    omega
  have htv5 := (pOwns_below htv hal).kept q2 (.inr (fun e => hne' e.symm))
  have hat : at3 = ⟨at3.block, 0, none⟩ := by
    rcases htv.2 with ⟨e, _⟩ | ⟨g, cap, cur, e, _⟩
    · cases e
    · cases e; rfl
  have hcells : ∀ j u, (ocCells (L.drop K))[j]? = some u → w5.cell? (at3.add j) = some u := by
    rcases htv5.2 with ⟨e, _⟩ | ⟨g, cap, cur, e, hb, hg, hnc, hcm, hcs, htk⟩
    · cases e
    · cases e
      intro j u hj
      have hjl : j < nt * 3 := by
        have := (List.getElem?_eq_some_iff.1 hj).1
        rw [ocCells_length, List.length_drop] at this
        omega
      rw [← htk, List.getElem?_take, if_pos hjl, Array.getElem?_toList] at hj
      rw [add_plain, oCell hg, Nat.zero_add]
      exact hj
  obtain ⟨v6, w6, hrun6, s1, s2, s3⟩ := oAppend_where (P := Try.prog) w5 B 23 23 32 i0 (.agg #[.int .i64 0, .int .i64 0, .slice none 0 0]) 3 40 Try.underlying23 hi hz0 hz1 hz2 rfl (by decide) v5 (K + 1) (ocCells (L.take K) ++ OC.v ⟨o, a1, c1⟩) q1 at3 nt ct (ocCells (L.drop K)) (by rw [ocCells_length, List.length_drop]; omega) hcells (ocCells_one _) (by unfold maxLen; omega) (by omega) (by have := q2.size; omega)
  refine ⟨v5, w5, v6, w6, hrun5, hrun6, ?_, ?_, ?_⟩
  · rw [show L.length + 1 = K + 1 + nt by omega, ocCells_append, show ocCells (⟨o, a1, c1⟩ :: L.drop K) = OC.v ⟨o, a1, c1⟩ ++ ocCells (L.drop K) by simp [ocCells], ← List.append_assoc]
    exact s1
  · refine ⟨?_, ?_, ?_, ?_, ?_⟩
    · exact s2.os.trans (q2.os.trans hal.os)
    · exact s2.tape.trans (q2.tape.trans hal.tape)
    · exact s2.output.trans (q2.output.trans hal.output)
    · exact Nat.le_trans hal.size (Nat.le_trans q2.size s2.size)
    · intro k hk hne
      have e1 := hal.block k hk
      have e2 := q2.block k (by omega) hne
      have e3 := s2.block k (by have := q2.size; omega) (fun e => by
        rcases q3 k e.symm with h | h
        · exact hne h.symm
        · omega)
      exact e3.trans (e2.trans e1)
  · intro k hk
    rcases s3 k hk with h | h
    · rcases q3 k h with h | h
      · exact .inl h
      · exact .inr (by omega)
    · have := q2.size
      exact .inr (by omega)

/-- What is left to say behind the two appends. -/
theorem put_close {w w4 w6 : World} {v v6 : Value} {o : Occ} {a1 : Option Addr} {N : Nat} (hw4 : Below w.heap.size w w4) (hN : w.heap.size ≤ N) (hi1 : IntOwn w4 N a1 o.ids) (hl1 : ∀ p, a1 = some p → p.block < w4.heap.size)
    (hv : ∀ k, v.ownBlock = some k → k < w.heap.size) (s2 : w4.grownBy w6 v.ownBlock) (s3 : ∀ k, v6.ownBlock = some k → v.ownBlock = some k ∨ w4.heap.size < k) :
    w.grownBy w6 v.ownBlock ∧ IntOwn w6 w.heap.size a1 o.ids ∧ (∀ p, a1 = some p → p.block < w6.heap.size ∧ v6.ownBlock ≠ some p.block) ∧ ∀ k, v6.ownBlock = some k → v.ownBlock = some k ∨ w.heap.size ≤ k := by
  refine ⟨⟨s2.os.trans hw4.os, s2.tape.trans hw4.tape, s2.output.trans hw4.output, Nat.le_trans hw4.size s2.size, fun k hk hne => (s2.block k (Nat.lt_of_lt_of_le hk hw4.size) hne).trans (hw4.block k hk)⟩, ?_, ?_, ?_⟩
  · have h2 := hi1.only s2 (fun p hp e => by have h1 := hv _ e; have h3 := hi1.ge p hp; omega)
    refine ⟨h2.len, fun x hx => Nat.le_trans hN (h2.ge x hx), fun hpos => ?_⟩
    obtain ⟨b, e, g1, g2⟩ := h2.row hpos
    exact ⟨b, e, Nat.le_trans hN g1, g2⟩
  · intro p hp
    refine ⟨Nat.lt_of_lt_of_le (hl1 p hp) s2.size, fun e => ?_⟩
    have h3 := hi1.ge p hp
    have h4 := hl1 p hp
    rcases s3 _ e with h | h
    · have := hv _ h; omega
    · omega
  · intro k hk
    rcases s3 k hk with h | h
    · exact .inl h
    · have := hw4.size
      exact .inr (by omega)

set_option maxHeartbeats 1000000 in
theorem l3Put_any (B : Nat) (v : Value) (L : List OC) (o : Occ) (a : Option Addr) (cap : Nat) (w : World) (hrow : w.ownsRow B 32 3 v L.length (ocCells L)) (h1 : ∀ x ∈ L, Ints w x.a x.o.ids) (hB : B ≤ w.heap.size) (h : Ints w a o.ids) (h0 : 0 < o.ids.length) (hn : o.ids.length ≤ 1048576) (hLn : L.length ≤ 100000)
    (hs : ∀ x ∈ L, Small x.o.ids) (hso : Small o.ids) (hw : ∀ x ∈ L, ∀ i ∈ x.o.ids, I64 i) (hwo : ∀ i ∈ o.ids, I64 i) :
    Calls Try.prog 36 #[v, .agg #[.int .i64 o.fr, .int .i64 o.tl, .slice a o.ids.length cap]] w (PutPost w B v L o) := by
  obtain ⟨i0, hi, hz0, hz1, hz2⟩ := info_occ_parts
  obtain ⟨av, cv, rfl⟩ := pOwns_slice hrow
  have hocc := row_occs hrow h1
  obtain ⟨l, hl⟩ : ∃ l, L.map (·.o) = l := ⟨_, rfl⟩
  have hLl : L.length = l.length := by rw [← hl]; simp
  rw [hl] at hocc
  have hsl : ∀ k (h : k < l.length), Small l[k].ids ∧ ∀ i ∈ l[k].ids, I64 i := by
    intro k hk
    subst hl
    simp only [List.length_map] at hk
    simp only [List.getElem_map]
    exact ⟨hs _ (List.getElem_mem hk), hw _ (List.getElem_mem hk)⟩
  have hple := placeF_le o l
  obtain ⟨w0, hw0⟩ : ∃ w0, w.alloc (.cells #[.int .i64 o.fr, .int .i64 o.tl, .slice a o.ids.length cap] 32) = w0 := ⟨_, rfl⟩
  have hX0 := box3_new w (.int .i64 o.fr) (.int .i64 o.tl) (.slice a o.ids.length cap) 32
  have hb0 := oBelow_new w (.cells #[.int .i64 o.fr, .int .i64 o.tl, .slice a o.ids.length cap] 32)
  rw [hw0] at hX0 hb0
  rw [hLl]
  go_enter Try.func36, Try.ntmps36
  go_wp2
  go_loopw [5] (fun i wr => ∃ k : Nat, k ≤ placeF o l ∧ i = .int .i64 k ∧ Below w0.heap.size w0 wr) (fun i _ => l.length - (intOf i).toNat)
  case atStart => exact ⟨0, Nat.zero_le _, rfl, Below.refl _ _⟩
  case round =>
    obtain ⟨k, hk, rfl, hb⟩ := hrel
    have hbw := hb0.trans (hb.mono hb0.size)
    obtain ⟨x0, x1, x2⟩ := (hX0.below hb).cells
    have hxl := (hX0.below hb).lt
    have f0 := fun u : After wr => u.cell x0 hxl
    have f1 := fun u : After wr => u.cell x1 hxl
    have f2 := fun u : After wr => u.cell x2 hxl
    have hio := h.below hbw
    by_cases hlt : k < l.length
    · have hkd : decide (k < l.length) = true := by simpa using hlt
      obtain ⟨b, off, p, cp, rfl, hbl, c0, c1, c2, hids⟩ := (hocc.below hbw).at hlt
      obtain ⟨hsk, hwk⟩ := hsl k hlt
      have hpl : (k < placeF o l → oLess l[k] o = true) ∧ (k = placeF o l → oLess l[k] o = false) := ⟨fun hh => placeF_less o l k hh, fun hh => by subst hh; exact placeF_stop o l hlt⟩
      have hsm : k = placeF o l → sameAt o l = oEqB l[k] o := fun hh => by subst hh; exact sameAt_in hlt
      generalize l[k] = y at c0 c1 c2 hids hsk hwk hpl hsm
      have a0 := fun u : After wr => u.cell c0 hbl
      have a1 := fun u : After wr => u.cell c1 hbl
      have a2 := fun u : After wr => u.cell c2 hbl
      have hcall := fun (u : After wr) => calls_after (u := u) (specOccLess_any y.fr y.tl p cp y.ids o.fr o.tl a cap o.ids u.v (hids.below u.h) (hio.below u.h) hsk hso)
      by_cases hkp : k < placeF o l
      · have hev : lessB y.fr y.tl y.ids o.fr o.tl o.ids = true := hpl.1 hkp
        rw [hev] at hcall
        go_wp2
        have hany := after_any
        refine wp_region_after (by kernel_rfl) (by kernel_rfl) ?_
        repeat (go_big_quiet_step ((go_at_call 43; refine hcall _)))
        refine wpQuiet_nil ?_
        intro w1 hu
        have hbe := hb.trans ((after_of hu).mono hb.size)
        clear hu
        go_wp2
        exact ⟨⟨k + 1, by omega, by go_num, hbe⟩, by simp [intOf]; omega⟩
      · obtain rfl : k = placeF o l := by omega
        have hev : lessB y.fr y.tl y.ids o.fr o.tl o.ids = false := hpl.2 rfl
        rw [hev] at hcall
        have hsame := hsm rfl
        clear hpl hsm hkp
        go_wp2
        have hany := after_any
        refine wp_region_after (by kernel_rfl) (by kernel_rfl) ?_
        repeat (go_big_quiet_step ((go_at_call 43; refine hcall _)))
        refine wpQuiet_nil ?_
        intro w1 hu
        have hb1 := after_of hu
        have hbe := hb.trans (hb1.mono hb.size)
        clear hu hcall a0 a1 a2 f0 f1 f2
        have hbw1 := hb0.trans (hbe.mono hb0.size)
        have e0 := fun u : After w1 => u.cell ((hb1.cell hbl).trans c0) (Nat.lt_of_lt_of_le hbl hb1.size)
        have e1 := fun u : After w1 => u.cell ((hb1.cell hbl).trans c1) (Nat.lt_of_lt_of_le hbl hb1.size)
        have e2 := fun u : After w1 => u.cell ((hb1.cell hbl).trans c2) (Nat.lt_of_lt_of_le hbl hb1.size)
        have g0 := fun u : After w1 => u.cell ((hb1.cell hxl).trans x0) (Nat.lt_of_lt_of_le hxl hb1.size)
        have g1 := fun u : After w1 => u.cell ((hb1.cell hxl).trans x1) (Nat.lt_of_lt_of_le hxl hb1.size)
        have g2 := fun u : After w1 => u.cell ((hb1.cell hxl).trans x2) (Nat.lt_of_lt_of_le hxl hb1.size)
        have hcall := fun (u : After w1) => calls_after (u := u) (l3Same_any y.fr y.tl p cp y.ids o.fr o.tl a cap o.ids u.v ((hids.below hb1).below u.h) ((hio.below hb1).below u.h) hwk hwo)
        clear c0 c1 c2 x0 x1 x2
        cases hev2 : occEqB y.fr y.tl y.ids o.fr o.tl o.ids
        · rw [hev2] at hcall
          go_wp2
          refine wp_region_after (by kernel_rfl) (by kernel_rfl) ?_
          repeat (go_big_quiet_step ((go_at_call 53; refine hcall _)))
          refine wpQuiet_nil ?_
          intro w2 hu
          have hb2 := after_of hu
          have hbw2 := hbw1.trans (hb2.mono hbw1.size)
          clear hu hcall e0 e1 e2 g0 g1 g2
          obtain ⟨g, hge, hbg, hcv⟩ : ∃ g, B ≤ g ∧ (some ⟨b, off, none⟩ : Option Addr) = some ⟨g, 0, none⟩ ∧ l.length ≤ cv := by
            rcases hrow.2 with ⟨e, hn0⟩ | ⟨g, cap', cur, e, hge, hg, hnc, _⟩
            · omega
            · cases e
              exact ⟨_, hge, rfl, by omega⟩
          cases hbg
          obtain ⟨K, hK⟩ : ∃ K, placeF o l = K := ⟨_, rfl⟩
          rw [hK] at hlt hkd ⊢
          have HK : Hid (placeF o l = K) := hK
          clear hK
          have hrow2 := pOwns_below hrow hbw2
          have hal := oBelow_new w2 (.cells #[] 32)
          have hrow2a := pOwns_below hrow2 hal
          go_wp2_with (at_builtin; refine wpList_append_where rfl _ _ 23 rfl w2.heap.size 32 i0 (.agg #[.int .i64 0, .int .i64 0, .slice none 0 0]) 3 40 Try.underlying23 hi hz0 hz1 hz2 rfl (by decide) (.slice (some ⟨w2.heap.size, 0, none⟩) 0 0) 0 [] rfl (World.ownsRow_made _ _ _ (Nat.le_refl _) (by simp [maxLen]) rfl) ⟨b, K * 3, none⟩ (l.length - K) (cv - K) (ocCells (L.drop K)) rfl ?c0 ?c1 ?c2 ?c3 ?c4 ?c5 ?_)
          case c0 => rw [ocCells_length]; simp; omega
          case c1 => exact row_cells hrow2a K (by omega)
          case c2 => exact ocCells_one _
          case c3 => unfold maxLen; omega
          case c4 => omega
          case c5 => simp
          intro tv w3 r1 r2 r3
          have hb3 : Below w2.heap.size w2 w3 := hal.grown r2 (by simp) (fun x hx => by cases hx; exact Nat.le_refl _)
          have htv : w3.ownsRow w2.heap.size 32 3 tv (l.length - K) (ocCells (L.drop K)) := by simpa using r1
          obtain ⟨at3, ct3, rfl⟩ := pOwns_slice htv
          clear r1 r2 r3
          have hbw3 := hbw2.trans (hb3.mono hbw2.size)
          have hX3 := ((hX0.below hb).below hb1).below (hb2.trans (hb3.mono hb2.size))
          obtain ⟨x0, x1, x2⟩ := hX3.cells
          have hat3 : ∃ ad, at3 = some ad := by
            rcases htv.2 with ⟨e, hn0⟩ | ⟨g, cap', cur, e, _⟩
            · exact absurd hn0 (by omega)
            · cases e; exact ⟨_, rfl⟩
          obtain ⟨ad, rfl⟩ := hat3
          have hrow3 := ownsRow_take (pOwns_below hrow hbw3) (K := K) (by omega)
          have hbw3d := hbw3.drew
          have hb3d := hb3.drew
          have hKcv : K ≤ cv := by omega
          have hPlt : b < w2.heap.size := (hrow2.lt b rfl).2
          have hB3 : B ≤ w3.heap.size := Nat.le_trans hB hbw3.size
          go_wp2_with fail
          go_region_law (first
            | refine step_append_run rfl (.tmp 41) (.tmp 44) 23 rfl _ _ rfl rfl hrun5 ?_
            | refine step_append_run rfl (.tmp 45) (.tmp 46) 23 rfl _ _ rfl rfl hrun6 ?_
            | (go_simp; go_wp2_with (go_at_call 44; refine (l3Copy_any o a cap _ (h.below hbw3d) h0 hn).mono ?_; rintro e w4 ⟨a1, c1, rfl, hi1, hl1, hb4⟩; obtain ⟨v5, w5, v6, w6, hrun5, hrun6, s1, s2, s3⟩ := put_runs (w := w) (w3 := w3) (T2 := w2.heap.size) (o := o) (a1 := a1) (c1 := c1) (b := b) (cv := cv) (pOwns_below (w := w3.drew) hrow3 hb4) (by omega) (by omega) (Nat.le_trans hB3 hb4.size) (pOwns_below (w := w3.drew) htv hb4) (by omega) (fun k hk => by cases hk; exact hPlt))))
          all_goals go_wp2
          all_goals go_ret
          all_goals
            have hbw4 : Below w.heap.size w w4 := hbw3d.trans (hb4.mono hbw3d.size)
            obtain ⟨k1, k2, k3, k4⟩ := put_close (v := .slice (some ⟨b, 0, none⟩) K cv) hbw4 hbw3d.size hi1 hl1 (fun k hk => by cases hk; exact (hrow.lt b rfl).2) s2 s3
            refine ⟨_, rfl, .inr ⟨by rw [hl, hsame]; exact hev2, a1, c1, ?_, k1, k2, k3, k4⟩⟩
            rw [hl, HK.out]
            exact s1
        · rw [hev2] at hcall
          go_wp2
          refine wp_region_after (by kernel_rfl) (by kernel_rfl) ?_
          repeat (go_big_quiet_step ((go_at_call 53; refine hcall _)))
          refine wpQuiet_nil ?_
          intro w2 hu
          have hb2 := after_of hu
          have hbw2 := hbw1.trans (hb2.mono hbw1.size)
          clear hu hcall e0 e1 e2 g0 g1 g2
          go_wp2
          go_ret
          exact ⟨_, rfl, .inl ⟨by rw [hl, hsame]; exact hev2, rfl, hbw2⟩⟩
    · have hkl : k = l.length := by omega
      have HK : Hid (placeF o l = k) := by show _ = _; omega
      have hsame : Hid (sameAt o l = false) := sameAt_out (by omega)
      have hLk : L.length = k := by omega
      rw [← hkl]
      rw [hLk] at hrow
      clear hple hsl hocc hlt hk hLl
      have Hkl : Hid (k = l.length) := hkl
      clear hkl
      rcases hrow.2 with ⟨e, hk0⟩ | ⟨g, cap', cur, e, hge, hg, hnc, _⟩
      · cases e
        go_wp2
        have hany := after_any
        refine wp_region_after (by kernel_rfl) (by kernel_rfl) ?_
        repeat (go_big_quiet_step (fail))
        refine wpQuiet_nil ?_
        intro w1 hu
        have hb1 := after_of hu
        clear hu
        go_wp2
        refine wp_region_after (by kernel_rfl) (by kernel_rfl) ?_
        repeat (go_big_quiet_step (fail))
        refine wpQuiet_nil ?_
        intro w2 hu
        have hb2 := after_of hu
        clear hu
        have hal := oBelow_new w2 (.cells #[] 32)
        have hbw2 : Below w.heap.size w w2 := by
          have x1 := hbw.trans (hb1.mono hbw.size)
          exact x1.trans (hb2.mono x1.size)
        have hbw3 : Below w.heap.size w (w2.alloc (.cells #[] 32)) := hbw2.trans (hal.mono hbw2.size)
        have hX3 := ((hX0.below hb).below hb1).below (hb2.trans (hal.mono hb2.size))
        obtain ⟨y0, y1, y2⟩ := hX3.cells
        have htv : (w2.alloc (.cells #[] 32)).ownsRow w2.heap.size 32 3 (.slice (some ⟨w2.heap.size, 0, none⟩) 0 0) 0 (ocCells (L.drop 0)) := by
          rw [List.drop_of_length_le (by omega)]
          exact World.ownsRow_made _ _ _ (Nat.le_refl _) (by simp [maxLen]) rfl
        have hrow3 : (w2.alloc (.cells #[] 32)).ownsRow B 32 3 (.slice none 0 0) 0 (ocCells (L.take 0)) := by
          rw [List.take_of_length_le (by omega)]
          exact pOwns_below hrow hbw3
        have hbw3d := hbw3.drew
        have hB3 : B ≤ (w2.alloc (.cells #[] 32)).heap.size := Nat.le_trans hB hbw3.size
        have hv3 : ∀ k, Value.ownBlock (.slice none 0 0) = some k → k < w.heap.size := fun k hk => (hrow.lt k hk).2
        obtain ⟨w3, hw3⟩ : ∃ w3, w2.alloc (.cells #[] 32) = w3 := ⟨_, rfl⟩
        rw [hw3] at htv hrow3 hbw3 hbw3d hB3 y0 y1 y2
        go_wp2_with fail
        go_region_law (first
          | refine step_append_run rfl (.tmp 41) (.tmp 44) 23 rfl _ _ rfl rfl hrun5 ?_
          | refine step_append_run rfl (.tmp 45) (.tmp 46) 23 rfl _ _ rfl rfl hrun6 ?_
          | (go_simp; go_wp2_with (go_at_call 44; refine (l3Copy_any o a cap _ (h.below hbw3d) h0 hn).mono ?_; rintro e w4 ⟨a1, c1, rfl, hi1, hl1, hb4⟩; obtain ⟨v5, w5, v6, w6, hrun5, hrun6, s1, s2, s3⟩ := put_runs (w := w) (w3 := w3) (T2 := w2.heap.size) (o := o) (a1 := a1) (c1 := c1) (b := 0) (cv := cap) (pOwns_below (w := w3.drew) hrow3 hb4) (by omega) (by omega) (Nat.le_trans hB3 hb4.size) (pOwns_below (w := w3.drew) htv hb4) (by omega) (fun k hk => Nat.lt_of_lt_of_le (hv3 k hk) hbw2.size))))
        all_goals go_wp2
        all_goals go_ret
        all_goals
          have hbw4 : Below w.heap.size w w4 := hbw3d.trans (hb4.mono hbw3d.size)
          obtain ⟨k1, k2, k3, k4⟩ := put_close (v := .slice none 0 0) hbw4 hbw3d.size hi1 hl1 hv3 s2 s3
          refine ⟨_, rfl, .inr ⟨by rw [hl]; exact hsame.out, a1, c1, ?_, k1, k2, k3, k4⟩⟩
          rw [hl, HK.out]
          exact s1
      · cases e
        by_cases hck : cv = k
        · subst hck
          go_wp2
          have hany := after_any
          refine wp_region_after (by kernel_rfl) (by kernel_rfl) ?_
          repeat (go_big_quiet_step (fail))
          refine wpQuiet_nil ?_
          intro w1 hu
          have hb1 := after_of hu
          clear hu
          go_wp2
          refine wp_region_after (by kernel_rfl) (by kernel_rfl) ?_
          repeat (go_big_quiet_step (fail))
          refine wpQuiet_nil ?_
          intro w2 hu
          have hb2 := after_of hu
          clear hu
          have hal := oBelow_new w2 (.cells #[] 32)
          have hbw2 : Below w.heap.size w w2 := by
            have x1 := hbw.trans (hb1.mono hbw.size)
            exact x1.trans (hb2.mono x1.size)
          have hbw3 : Below w.heap.size w (w2.alloc (.cells #[] 32)) := hbw2.trans (hal.mono hbw2.size)
          have hX3 := ((hX0.below hb).below hb1).below (hb2.trans (hal.mono hb2.size))
          obtain ⟨y0, y1, y2⟩ := hX3.cells
          have htv : (w2.alloc (.cells #[] 32)).ownsRow w2.heap.size 32 3 (.slice (some ⟨w2.heap.size, 0, none⟩) 0 0) 0 (ocCells (L.drop cv)) := by
            rw [List.drop_of_length_le (by omega)]
            exact World.ownsRow_made _ _ _ (Nat.le_refl _) (by simp [maxLen]) rfl
          have hrow3 : (w2.alloc (.cells #[] 32)).ownsRow B 32 3 (.slice (some ⟨g, 0, none⟩) cv cv) cv (ocCells (L.take cv)) := by
            rw [List.take_of_length_le (by omega)]
            exact pOwns_below hrow hbw3
          have hbw3d := hbw3.drew
          have hB3 : B ≤ (w2.alloc (.cells #[] 32)).heap.size := Nat.le_trans hB hbw3.size
          have hv3 : ∀ k, Value.ownBlock (.slice (some ⟨g, 0, none⟩) cv cv) = some k → k < w.heap.size := fun k hk => (hrow.lt k hk).2
          obtain ⟨w3, hw3⟩ : ∃ w3, w2.alloc (.cells #[] 32) = w3 := ⟨_, rfl⟩
          rw [hw3] at htv hrow3 hbw3 hbw3d hB3 y0 y1 y2
          go_wp2_with fail
          go_region_law (first
            | refine step_append_run rfl (.tmp 41) (.tmp 44) 23 rfl _ _ rfl rfl hrun5 ?_
            | refine step_append_run rfl (.tmp 45) (.tmp 46) 23 rfl _ _ rfl rfl hrun6 ?_
            | (go_simp; go_wp2_with (go_at_call 44; refine (l3Copy_any o a cap _ (h.below hbw3d) h0 hn).mono ?_; rintro e w4 ⟨a1, c1, rfl, hi1, hl1, hb4⟩; obtain ⟨v5, w5, v6, w6, hrun5, hrun6, s1, s2, s3⟩ := put_runs (w := w) (w3 := w3) (T2 := w2.heap.size) (o := o) (a1 := a1) (c1 := c1) (b := 0) (cv := cap) (pOwns_below (w := w3.drew) hrow3 hb4) (by omega) (by omega) (Nat.le_trans hB3 hb4.size) (pOwns_below (w := w3.drew) htv hb4) (by omega) (fun k hk => Nat.lt_of_lt_of_le (hv3 k hk) hbw2.size))))
          all_goals go_wp2
          all_goals go_ret
          all_goals
            have hbw4 : Below w.heap.size w w4 := hbw3d.trans (hb4.mono hbw3d.size)
            obtain ⟨k1, k2, k3, k4⟩ := put_close (v := .slice (some ⟨g, 0, none⟩) cv cv) hbw4 hbw3d.size hi1 hl1 hv3 s2 s3
            refine ⟨_, rfl, .inr ⟨by rw [hl]; exact hsame.out, a1, c1, ?_, k1, k2, k3, k4⟩⟩
            rw [hl, HK.out]
            exact s1
        · go_wp2
          have hany := after_any
          refine wp_region_after (by kernel_rfl) (by kernel_rfl) ?_
          repeat (go_big_quiet_step (fail))
          refine wpQuiet_nil ?_
          intro w1 hu
          have hb1 := after_of hu
          clear hu
          go_wp2
          refine wp_region_after (by kernel_rfl) (by kernel_rfl) ?_
          repeat (go_big_quiet_step (fail))
          refine wpQuiet_nil ?_
          intro w2 hu
          have hb2 := after_of hu
          clear hu
          have hal := oBelow_new w2 (.cells #[] 32)
          have hbw2 : Below w.heap.size w w2 := by
            have x1 := hbw.trans (hb1.mono hbw.size)
            exact x1.trans (hb2.mono x1.size)
          have hbw3 : Below w.heap.size w (w2.alloc (.cells #[] 32)) := hbw2.trans (hal.mono hbw2.size)
          have hX3 := ((hX0.below hb).below hb1).below (hb2.trans (hal.mono hb2.size))
          obtain ⟨y0, y1, y2⟩ := hX3.cells
          have htv : (w2.alloc (.cells #[] 32)).ownsRow w2.heap.size 32 3 (.slice (some ⟨w2.heap.size, 0, none⟩) 0 0) 0 (ocCells (L.drop k)) := by
            rw [List.drop_of_length_le (by omega)]
            exact World.ownsRow_made _ _ _ (Nat.le_refl _) (by simp [maxLen]) rfl
          have hrow3 : (w2.alloc (.cells #[] 32)).ownsRow B 32 3 (.slice (some ⟨g, 0, none⟩) k cv) k (ocCells (L.take k)) := by
            rw [List.take_of_length_le (by omega)]
            exact pOwns_below hrow hbw3
          have hbw3d := hbw3.drew
          have hB3 : B ≤ (w2.alloc (.cells #[] 32)).heap.size := Nat.le_trans hB hbw3.size
          have hv3 : ∀ k, Value.ownBlock (.slice (some ⟨g, 0, none⟩) k cv) = some k → k < w.heap.size := fun k hk => (hrow.lt k hk).2
          obtain ⟨w3, hw3⟩ : ∃ w3, w2.alloc (.cells #[] 32) = w3 := ⟨_, rfl⟩
          rw [hw3] at htv hrow3 hbw3 hbw3d hB3 y0 y1 y2
          go_wp2_with fail
          go_region_law (first
            | refine step_append_run rfl (.tmp 41) (.tmp 44) 23 rfl _ _ rfl rfl hrun5 ?_
            | refine step_append_run rfl (.tmp 45) (.tmp 46) 23 rfl _ _ rfl rfl hrun6 ?_
            | (go_simp; go_wp2_with (go_at_call 44; refine (l3Copy_any o a cap _ (h.below hbw3d) h0 hn).mono ?_; rintro e w4 ⟨a1, c1, rfl, hi1, hl1, hb4⟩; obtain ⟨v5, w5, v6, w6, hrun5, hrun6, s1, s2, s3⟩ := put_runs (w := w) (w3 := w3) (T2 := w2.heap.size) (o := o) (a1 := a1) (c1 := c1) (b := 0) (cv := cap) (pOwns_below (w := w3.drew) hrow3 hb4) (by omega) (by omega) (Nat.le_trans hB3 hb4.size) (pOwns_below (w := w3.drew) htv hb4) (by omega) (fun k hk => Nat.lt_of_lt_of_le (hv3 k hk) hbw2.size))))
          all_goals go_wp2
          all_goals go_ret
          all_goals
            have hbw4 : Below w.heap.size w w4 := hbw3d.trans (hb4.mono hbw3d.size)
            obtain ⟨k1, k2, k3, k4⟩ := put_close (v := .slice (some ⟨g, 0, none⟩) k cv) hbw4 hbw3d.size hi1 hl1 hv3 s2 s3
            refine ⟨_, rfl, .inr ⟨by rw [hl]; exact hsame.out, a1, c1, ?_, k1, k2, k3, k4⟩⟩
            rw [hl, HK.out]
            exact s1
end Go.Proofs.Ytmomoboedoljfaa
