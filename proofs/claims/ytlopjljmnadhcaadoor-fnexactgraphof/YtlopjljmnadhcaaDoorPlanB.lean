/- The specification puts a part, and all its parts ahead of it, into a graph: its walk. -/
import Derived.Test.YtlopjljmnadhcaaDoorPlanA
namespace Go.Proofs.YtlopjljmnadhcaaDoor
open Go.ChangeShapes Go.WideShapes Go.ChangeAt Go.RowKit
set_option linter.unusedVariables false
set_option maxRecDepth 4000

set_option maxHeartbeats 4000000 in
theorem add_any (w0 : World) : ∀ (d : Nat), ∀ (kd sy n : Int) (a : Option Addr) (cap : Nat) (F : Fo) (S : Pl) (m : Int) (v : Value) (L : List GC) (tv : Value) (w : World), Slc w0 a F → formX d kd sy n F = true → Below w0.heap.size w0 w →
    SpSt w w0.heap.size v L tv S → S.length + F.size ≤ 100000 →
    Calls Tryd.prog 19 #[.agg #[.int .i64 m, v, .int .i64 0, .int .i64 0, .bool false], tv, .agg #[.int .i64 kd, .int .i64 sy, .int .i64 n, .slice a F.len cap]] w (AddPost w w0.heap.size m v L tv (planX kd sy n F S)) := by
  intro d
  induction d with
  | zero => intro kd sy n a cap F S m v L tv w _ hf; simp [formX] at hf
  | succ d ih =>
    intro kd sy n a cap F S m v L tv w h hf hw hst hS
    have hff : formF d F = true := by simp only [formX, Bool.and_eq_true] at hf; exact hf.2
    obtain ⟨B, hB⟩ : ∃ B, w0.heap.size = B := ⟨_, rfl⟩
    have hwB : Below B w0 w := by rw [← hB]; exact hw
    have hBw : B ≤ w.heap.size := by have := hwB.size; omega
    rw [hB] at hst ⊢
    obtain ⟨ta, tc, rfl⟩ := gOwns_slice hst.txt
    obtain ⟨va, vc, rfl⟩ := gOwns_slice hst.own.row
    obtain ⟨R0, hR0⟩ : ∃ R0, planX kd sy n F S = R0 := ⟨_, rfl⟩
    rw [hR0]
    have HR : Hid (planX kd sy n F S = R0) := hR0
    clear hR0
    obtain ⟨A, hA⟩ : ∃ A, w.heap.size = A := ⟨_, rfl⟩
    obtain ⟨u1, hu1⟩ : ∃ u1, w.alloc (.cells #[.int .i64 m, .slice va L.length vc, .int .i64 0, .int .i64 0, .bool false] 28) = u1 := ⟨_, rfl⟩
    have hA1 := gb_new w #[.int .i64 m, .slice va L.length vc, .int .i64 0, .int .i64 0, .bool false] 28
    have bu1 := gBelow_new w (.cells #[.int .i64 m, .slice va L.length vc, .int .i64 0, .int .i64 0, .bool false] 28)
    have zu1 : (w.alloc (.cells #[.int .i64 m, .slice va L.length vc, .int .i64 0, .int .i64 0, .bool false] 28)).heap.size = w.heap.size + 1 := by simp
    rw [hu1] at hA1 bu1 zu1
    rw [hA] at hA1
    obtain ⟨X, hX⟩ : ∃ X, u1.heap.size = X := ⟨_, rfl⟩
    obtain ⟨u2, hu2⟩ : ∃ u2, u1.alloc (.cells #[.int .i64 kd, .int .i64 sy, .int .i64 n, .slice a F.len cap] 32) = u2 := ⟨_, rfl⟩
    have hX2 := gb_new u1 #[.int .i64 kd, .int .i64 sy, .int .i64 n, .slice a F.len cap] 32
    have bu2 := gBelow_new u1 (.cells #[.int .i64 kd, .int .i64 sy, .int .i64 n, .slice a F.len cap] 32)
    have zu2 : (u1.alloc (.cells #[.int .i64 kd, .int .i64 sy, .int .i64 n, .slice a F.len cap] 32)).heap.size = u1.heap.size + 1 := by simp
    rw [hu2] at hX2 bu2 zu2
    rw [hX] at hX2
    obtain ⟨R, hR⟩ : ∃ R, u2.heap.size = R := ⟨_, rfl⟩
    obtain ⟨u3, hu3⟩ : ∃ u3, u2.alloc (.cells #[.int .i64 0, .slice none 0 0, .int .i64 0, .int .i64 0, .bool false] 28) = u3 := ⟨_, rfl⟩
    have hR3 := gb_new u2 #[.int .i64 0, .slice none 0 0, .int .i64 0, .int .i64 0, .bool false] 28
    have bu3 := gBelow_new u2 (.cells #[.int .i64 0, .slice none 0 0, .int .i64 0, .int .i64 0, .bool false] 28)
    have zu3 : (u2.alloc (.cells #[.int .i64 0, .slice none 0 0, .int .i64 0, .int .i64 0, .bool false] 28)).heap.size = u2.heap.size + 1 := by simp
    rw [hu3] at hR3 bu3 zu3
    rw [hR] at hR3
    have lAX : A < X := by omega
    have lXR : X < R := by omega
    have lR3 : R < u3.heap.size := by omega
    have hA3 := (hA1.below bu2).below bu3
    have hX3 := hX2.below bu3
    have bw3 : Below w.heap.size w u3 := (bu1.trans (bu2.mono bu1.size)).trans (bu3.mono (by omega))
    clear hA1 hX2 bu1 bu2 bu3 zu1 zu2 zu3
    have bw03 : Below B w0 u3 := hwB.trans (bw3.mono hBw)
    have hF3 : Slc u3 a F := h.below (by rw [hB]; exact bw03)
    have q0 := hX3.at 0
    have q1 := hX3.at 1
    have q2 := hX3.at 2
    have q3 := hX3.at 3
    go_enter Tryd.func19, Tryd.ntmps19
    go_wp2_with fail
    refine (specText_any (d + 1) kd sy n a cap F _ hF3 hf (by omega)).mono ?_
    rintro e w4 ⟨rfl, hb4⟩
    have b4 := bw3.trans (hb4.mono bw3.size)
    have st4 := hst.below b4
    clear q0 q1 q2 q3 hu1 hu2 hu3
    go_wp2_with fail
    refine (at_any ta tc S (textX kd sy n F) w4 (txts_of st4.txt)).mono ?_
    rintro e w5 ⟨rfl, hw5⟩
    replace hw5 := hw5.symm
    subst hw5
    have hA4 := hA3.below hb4
    have hX4 := hX3.below hb4
    have hR4 := hR3.below hb4
    cases hidx : idxT (textX kd sy n F) S with
    | some i =>
      have hiv : idxV (textX kd sy n F) S = (i : Int) := by simp [idxV, hidx]
      have hp := planX_there hidx
      have hRe : Hid (R0 = (S, (i : Int))) := by show _ = _; rw [← HR.out, hp]
      rw [hiv]
      clear hiv hp hidx HR
      have y0 := hA4.at 0
      have y1 := hA4.at 1
      have y2 := hA4.at 2
      have y3 := hA4.at 3
      have y4 := hA4.at 4
      have x0 := hR4.at 0
      have x1 := hR4.at 1
      have x2 := hR4.at 2
      have x3 := hR4.at 3
      have x4 := hR4.at 4
      have f4 := hR4.free
      go_wp2
      have hRz := ((((hR4.set 0 (.int .i64 m)).set 1 (.slice va L.length vc)).set 2 (.int .i64 0)).set 3 (.int .i64 0)).set 4 (.bool false)
      have bz := ((((b4.setCell (p := ⟨R, 0, none⟩) (by show _ ≤ R; omega) (.int .i64 m)).setCell (p := ⟨R, 1, none⟩) (by show _ ≤ R; omega) (.slice va L.length vc)).setCell (p := ⟨R, 2, none⟩) (by show _ ≤ R; omega) (.int .i64 0)).setCell (p := ⟨R, 3, none⟩) (by show _ ≤ R; omega) (.int .i64 0)).setCell (p := ⟨R, 4, none⟩) (by show _ ≤ R; omega) (.bool false)
      generalize (World.setCell _ ⟨R, 4, none⟩ (.bool false)) = wz at hRz bz ⊢
      refine bodyPost_ret (results_add (p := 6) (u := 7) (q := 8) rfl _ _ R _ _ _ _ _ rfl hRz) rfl ?_
      exact ⟨_, L, _, by rw [hRe.out]; rfl, by rw [hRe.out]; exact hst.below bz, Turn.of_below bz, fun b hb => .inl hb, fun b hb => .inl hb⟩
    | none =>
      have hiv : idxV (textX kd sy n F) S = -1 := by simp [idxV, hidx]
      rw [hiv]
      have hp := planX_new hidx
      have hRe : Hid (R0 = ((planF F S).1 ++ [(textX kd sy n F, ⟨kd, sy, n, (planF F S).2⟩)], ((planF F S).1.length : Int))) := by show _ = _; rw [← HR.out, hp]
      clear hiv hp HR
      have q0 := hX4.at 0
      have q1 := hX4.at 1
      have q2 := hX4.at 2
      have q3 := hX4.at 3
      obtain ⟨N, hN⟩ : ∃ N, w4.heap.size = N := ⟨_, rfl⟩
      have lRN : R < N := by have := hR4.lt; omega
      have hNz := gb_new w4 #[.int .i64 kd, .int .i64 sy, .int .i64 n, .slice none 0 0, .slice none 0 0, .slice none 0 0, .slice none 0 0, .slice none 0 0, .slice none 0 0, .int .i64 0] 69
      have bNz := gBelow_new w4 (.cells #[.int .i64 kd, .int .i64 sy, .int .i64 n, .slice none 0 0, .slice none 0 0, .slice none 0 0, .slice none 0 0, .slice none 0 0, .slice none 0 0, .int .i64 0] 69)
      have hstart : AddLoop w (w4.alloc (.cells #[.int .i64 kd, .int .i64 sy, .int .i64 n, .slice none 0 0, .slice none 0 0, .slice none 0 0, .slice none 0 0, .slice none 0 0, .slice none 0 0, .int .i64 0] 69)) B A X R N m kd sy n a cap F (.slice va L.length vc) L (.slice ta S.length tc) S 0 (.slice va L.length vc) L (.slice ta S.length tc) (.slice none 0 0) :=
        ⟨hA4.below bNz, hX4.below bNz, hR4.below bNz, by rw [hN] at hNz; exact hNz, by rw [planTo_zero]; exact World.ownsRow_nil _ _ _ _, by rw [planTo_zero]; exact st4.below bNz, fun b hb => (by cases hb), fun b hb => .inl hb, fun b hb => .inl hb, Turn.of_below (b4.trans (bNz.mono b4.size))⟩
      go_wp2
      clear q0 q1 q2 q3
      go_loopw [1, 12, 13] (fun tt i kk wr => ∃ (k : Nat) (v' : Value) (L' : List GC) (tv' kv : Value), k ≤ F.len ∧ i = .int .i64 k ∧ tt = tv' ∧ AddLoop w wr B A X R N m kd sy n a cap F (.slice va L.length vc) L (.slice ta S.length tc) S k v' L' tv' kv) (fun _ i _ _ => F.len - (intOf i).toNat)
      case atStart => exact ⟨0, _, L, _, _, Nat.zero_le _, rfl, rfl, hstart⟩
      case round =>
        clear hstart hNz bNz
        obtain ⟨k, v', L', tv', kv, hk, rfl, rfl, hl⟩ := hrel
        have q3 := hl.hX.at 3
        have hNl := hl.hN.lt
        have hA' : w.heap.size ≤ A := by omega
        have bwr : Below B w0 wr := hwB.trans (hl.turn.below (fun b hb => (hst.all_lt hb.all).1) hBw)
        have hBr : B ≤ wr.heap.size := by have := hl.turn.size; omega
        obtain ⟨va', vc', rfl⟩ := gOwns_slice hl.st.own.row
        obtain ⟨ta', tc', rfl⟩ := gOwns_slice hl.st.txt
        obtain ⟨ka, kc, rfl⟩ := gOwns_slice hl.kids
        have hF100 : F.size ≤ 100000 := by omega
        have hFl : F.len ≤ F.size := by rw [Fo.size_eq]; omega
        by_cases hlt : k < F.len
        · obtain ⟨b, off, kd', sy', n', kids, p, cp, rfl, hbl, hdr, hsz, c0, c1, c2, c3, hkids⟩ := h.at hlt
          obtain ⟨f1, f2, f3⟩ := form_step k d F kd' sy' n' kids hff hdr
          rw [hB] at hbl
          rw [← bwr.cell (p := ⟨b, off + k * 4, none⟩) hbl] at c0
          rw [← bwr.cell (p := ⟨b, off + k * 4 + 1, none⟩) hbl] at c1
          rw [← bwr.cell (p := ⟨b, off + k * 4 + 2, none⟩) hbl] at c2
          rw [← bwr.cell (p := ⟨b, off + k * 4 + 3, none⟩) hbl] at c3
          have hroom := planTo_room k F S
          have hdsz : (F.drop k).size = kids.size + (F.drop (k + 1)).size + 1 := by rw [hdr]; rfl
          have hcall := fun (u : World) (hu : Below wr.heap.size wr u) => ih kd' sy' n' p cp kids (planTo k F S).1 m (.slice va' L'.length vc') L' (.slice ta' (planTo k F S).1.length tc') u hkids f1 (by rw [hB]; exact bwr.trans (hu.mono hBr)) (by rw [hB]; exact hl.st.below hu) (by omega)
          have y0 := hl.hA.at 0
          have y1 := hl.hA.at 1
          have y2 := hl.hA.at 2
          have y3 := hl.hA.at 3
          have y4 := hl.hA.at 4
          go_wp2_with fail
          go_region_with (go_at_call 19; refine (hcall _ (by first | exact (Below.refl _ _).drew | exact Below.refl _ _)).mono ?_; rintro e w5 ⟨v5, L5, tv5, rfl, st5, tn5, all5, xs5⟩; rw [hB] at st5; obtain ⟨va5, vc5, rfl⟩ := gOwns_slice st5.own.row; obtain ⟨ta5, tc5, rfl⟩ := gOwns_slice st5.txt; have hA5 := hl.hA.of (tn5.same A (by show A < wr.heap.size; omega) (fun hh => hl.safe hst (by omega) (by omega) hh.all)); have z0 := hA5.at 0; have z1 := hA5.at 1; have z2 := hA5.at 2; have z3 := hA5.at 3; have z4 := hA5.at 4; have f5 := hA5.free)
          all_goals
            have tn5' : Turn (SpX (.slice va' L'.length vc') (.slice ta' (planTo k F S).1.length tc')) wr w5 := (Turn.of_below ((Below.refl wr.heap.size wr).drew)).trans tn5
            have all5' : ∀ b, SpAll (.slice va5 L5.length vc5) L5 (.slice ta5 (planX kd' sy' n' kids (planTo k F S).1).1.length tc5) b → SpAll (.slice va' L'.length vc') L' (.slice ta' (planTo k F S).1.length tc') b ∨ wr.heap.size ≤ b := all5
            have xs5' : ∀ b, SpX (.slice va5 L5.length vc5) (.slice ta5 (planX kd' sy' n' kids (planTo k F S).1).1.length tc5) b → SpX (.slice va' L'.length vc') (.slice ta' (planTo k F S).1.length tc') b ∨ wr.heap.size ≤ b := xs5
            clear tn5 all5 xs5 hcall y0 y1 y2 y3 y4 c0 c1 c2 c3 q3 f5 z0 z1 z2 z3 z4
            have t6 : Turn (· = A) w5 _ := ((((Turn.set (X := (· = A)) w5 (b := A) rfl 0 (.int .i64 m)).trans (Turn.set (X := (· = A)) _ (b := A) rfl 1 (.slice va5 L5.length vc5))).trans (Turn.set (X := (· = A)) _ (b := A) rfl 2 (.int .i64 0))).trans (Turn.set (X := (· = A)) _ (b := A) rfl 3 (.int .i64 0))).trans (Turn.set (X := (· = A)) _ (b := A) rfl 4 (.bool false))
            have hA6 := ((((hA5.set 0 (.int .i64 m)).set 1 (.slice va5 L5.length vc5)).set 2 (.int .i64 0)).set 3 (.int .i64 0)).set 4 (.bool false)
            generalize (World.setCell _ ⟨A, 4, none⟩ (.bool false)) = w6 at t6 hA6 ⊢
            have hA6' : GB w6 A #[.int .i64 m, .slice va5 L5.length vc5, .int .i64 0, .int .i64 0, .bool false] := hA6
            obtain ⟨w7, hw7⟩ : ∃ w7, w6.alloc (.cells #[.int .i64 (planX kd' sy' n' kids (planTo k F S).1).2] 3) = w7 := ⟨_, rfl⟩
            obtain ⟨v8, w8, hrun, r1, r2, r3⟩ := add_append hl hst hA' (by omega) (by omega) tn5' t6 hw7
            obtain ⟨ka8, kc8, rfl⟩ := gOwns_slice r1
            have b7 : Below w6.heap.size w6 w7 := by rw [← hw7]; exact gBelow_new _ _
            have s5 := tn5'.size
            have s6 := t6.size
            have hN6 := hl.hN.of ((t6.same N (by omega) (by show N ≠ A; omega)).trans (tn5'.same N (by omega) (fun hh => hl.safe hst (by omega) (by omega) hh.all)))
            have hN7 := hN6.below b7
            have hN8 := hN7.of (r2.block N (by have := b7.size; omega) (fun e => by have := gOwns_lt hl.kids N e.symm; omega))
            have n3 := hN6.at 3
            have e3 := hN8.at 3
            have fN := hN8.free
            have hend := add_round hl hst hA' lAX lXR lRN hdr st5 tn5' all5' xs5' t6 hA6' b7 r1 r2 r3 rfl
            go_wp2_with (at_builtin; refine gList_append_run rfl (.tmp 51) (.tmp 53) 62 rfl _ _ rfl rfl hrun ?_)
            exact ⟨⟨k + 1, _, L5, _, _, by omega, by go_num, rfl, hend⟩, by simp [intOf]; omega⟩
        · have hpf := planTo_full k F S (by omega)
          have hpl : (planF F S).2.length = k := by have := planTo_places k F S; rw [hpf] at this; rw [this]; omega
          have hks := hl.kids
          rw [hpf] at hks
          have hst' := hl.st
          rw [hpf] at hst'
          have hll := hst'.len
          have hSl := (planF_len F S).2
          rw [hpf] at hl
          obtain ⟨S', hS'⟩ : ∃ S', (planF F S).1 = S' := ⟨_, rfl⟩
          rw [hS'] at hl hst' hll hSl
          rw [hpf, hS']
          have hLb : L'.length ≤ 100000 := by omega
          have hSb : S'.length ≤ 100000 := by omega
          have HLL : Hid (L'.length = S'.length) := hll
          have HS' : Hid ((planF F S).1 = S') := hS'
          clear hll hSl
          have hkap := hl.kap
          have hklt : ∀ b, (Value.slice ka k kc).ownBlock = some b → N < b ∧ b < wr.heap.size := fun b hb => by have := gOwns_lt hks b hb; omega
          obtain ⟨w2, hw2⟩ : ∃ w2, wr.alloc (.cells #[.int .i64 kd, .int .i64 sy, .int .i64 n, .slice ka k kc, .slice none 0 0, .slice none 0 0, .slice none 0 0, .slice none 0 0, .slice none 0 0, .int .i64 0] 69) = w2 := ⟨_, rfl⟩
          have b2 : Below wr.heap.size wr w2 := by rw [← hw2]; exact gBelow_new _ _
          obtain ⟨v3, w3, hrun3, g3, r2, r3⟩ := gc_append (w2 := w2) (x := ⟨⟨kd, sy, n, (planF F S).2⟩, ka, kc⟩) hst'.own (gInt_of_row (n := k) (cap := kc) (by show wr.ownsRow (N + 1) _ 1 _ (planF F S).2.length _; rw [hpl]; exact hks) (by omega))
            (fun p hp => (hklt p.block (by have hp' : ka = some p := hp; rw [hp']; rfl)).2) (fun p hp hg => hkap p.block (by have hp' : ka = some p := hp; rw [hp']; rfl) (.inl hg)) hLb (by rw [← hw2]; simp only [hpl]) hBr
          clear hpl
          obtain ⟨va3, vc3, hv3⟩ := gOwns_slice g3.row
          rw [show (L' ++ [(⟨⟨kd, sy, n, (planF F S).2⟩, ka, kc⟩ : GC)]).length = L'.length + 1 by simp] at hv3
          subst hv3
          have s2 := b2.size
          have hA3 := (hl.hA.below b2).of (r2.block A (by omega) (fun e => hl.safe hst (b := A) (by omega) (by omega) (.inl (.inl e.symm))))
          have hR3 := (hl.hR.below b2).of (r2.block R (by omega) (fun e => hl.safe hst (b := R) (by omega) (by omega) (.inl (.inl e.symm))))
          have t4 := Turn.set (X := (· = A)) w3 (b := A) rfl 1 (.slice va3 (L'.length + 1) vc3)
          have hA4 : GB (w3.setCell ⟨A, 1, none⟩ (.slice va3 (L'.length + 1) vc3)) A #[.int .i64 m, .slice va3 (L'.length + 1) vc3, .int .i64 0, .int .i64 0, .bool false] := hA3.set 1 _
          have hR4 := hR3.other (b := A) (by omega) 1 (.slice va3 (L'.length + 1) vc3)
          obtain ⟨w4, hw4⟩ : ∃ w4, w3.setCell ⟨A, 1, none⟩ (.slice va3 (L'.length + 1) vc3) = w4 := ⟨_, rfl⟩
          rw [hw4] at t4 hA4 hR4
          obtain ⟨w5, hw5⟩ : ∃ w5, w4.drew.alloc (.cells #[.string ⟨(textX kd sy n F).toArray⟩] 9) = w5 := ⟨_, rfl⟩
          have b5 : Below w4.heap.size w4 w5 := by rw [← hw5]; exact ((Below.refl w4.heap.size w4).drew).trans (gBelow_new w4.drew _)
          have c5 : w5.heap[w4.heap.size]? = some (.cells #[.string ⟨(textX kd sy n F).toArray⟩] 9 (0, 0)) := by rw [← hw5]; exact heap_alloc_new w4.drew _
          have s3 := r2.size
          have s4 := t4.size
          have s5 := b5.size
          have k5 : w5.ownsRow B 9 1 (.slice ta' S'.length tc') S'.length (txtCells S') := gOwns_turn hst'.txt (fun b hb => by
            have hlt := gOwns_lt hst'.txt b hb
            rw [b5.block b (by omega), t4.same b (by omega) (fun e => hl.safe hst (b := b) (by omega) (by omega) (.inr hb)), r2.block b (by omega) (fun e => hst'.ap b hb (.inl e.symm)), b2.block b (by omega)])
          obtain ⟨v6, w6, hrun6, q1', q2, q3'⟩ := txt_append (w4 := w4) (t := textX kd sy n F) k5 hSb c5 (by omega) ⟨kd, sy, n, (planF F S).2⟩
          obtain ⟨ta6, tc6, hv6⟩ := gOwns_slice q1'
          rw [show (S' ++ [(textX kd sy n F, (⟨kd, sy, n, (planF F S).2⟩ : GN))]).length = S'.length + 1 by simp] at hv6
          subst hv6
          have s6 := q2.size
          have tvR : ∀ b, (Value.slice ta' S'.length tc').ownBlock = some b → b ≠ A ∧ b ≠ R := fun b hb => ⟨fun e => hl.safe hst (b := b) (by omega) (by omega) (.inr hb), fun e => hl.safe hst (b := b) (by omega) (by omega) (.inr hb)⟩
          have hA6 := (hA4.below b5).of (q2.block A (by have := hA4.lt; omega) (fun e => (tvR A e.symm).1 rfl))
          have hR6 := (hR4.below b5).of (q2.block R (by have := hR4.lt; omega) (fun e => (tvR R e.symm).2 rfl))
          have m1 := hl.hA.at 1
          have n0 := hl.hN.at 0
          have n1 := hl.hN.at 1
          have n2 := hl.hN.at 2
          have n3 := hl.hN.at 3
          have n4 := hl.hN.at 4
          have n5 := hl.hN.at 5
          have n6 := hl.hN.at 6
          have n7 := hl.hN.at 7
          have n8 := hl.hN.at 8
          have n9 := hl.hN.at 9
          have a31 := hA3.at 1
          have fA3 := hA3.free
          have hwrap : IntKind.i64.wrap (L'.length : Int) = L'.length := by rw [IntKind.wrap_i64]; omega
          have d0 := hA4.at 0
          have d1 := hA4.at 1
          have d2 := hA4.at 2
          have d3 := hA4.at 3
          have d4 := hA4.at 4
          have hA5 := hA4.below b5
          have hR5 := hR4.below b5
          have e0 := hA5.at 0
          have e1 := hA5.at 1
          have e2 := hA5.at 2
          have e3 := hA5.at 3
          have e4 := hA5.at 4
          have g0 := hA6.at 0
          have g1 := hA6.at 1
          have g2 := hA6.at 2
          have g3' := hA6.at 3
          have g4 := hA6.at 4
          have x0 := hR6.at 0
          have x1 := hR6.at 1
          have x2 := hR6.at 2
          have x3 := hR6.at 3
          have x4 := hR6.at 4
          have f6 := hR6.free
          go_wp2_with (at_builtin; refine gList_append_run rfl (.tmp 57) (.tmp 59) 26 rfl _ _ rfl rfl hrun3 ?_)
          go_region_law (first | refine gstep_append_run rfl (.tmp 63) (.tmp 65) 44 rfl _ _ rfl rfl hrun6 ?_)
          all_goals
            have hRz := ((((hR6.set 0 (.int .i64 m)).set 1 (.slice va3 (L'.length + 1) vc3)).set 2 (.int .i64 0)).set 3 (.int .i64 0)).set 4 (.bool false)
            have t7 : Turn (· = R) w6 _ := ((((Turn.set (X := (· = R)) w6 (b := R) rfl 0 (.int .i64 m)).trans (Turn.set (X := (· = R)) _ (b := R) rfl 1 (.slice va3 (L'.length + 1) vc3))).trans (Turn.set (X := (· = R)) _ (b := R) rfl 2 (.int .i64 0))).trans (Turn.set (X := (· = R)) _ (b := R) rfl 3 (.int .i64 0))).trans (Turn.set (X := (· = R)) _ (b := R) rfl 4 (.bool false))
            go_wp2
            generalize (World.setCell _ ⟨R, 4, none⟩ (.bool false)) = w7 at hRz t7 ⊢
            obtain ⟨y1, y2, y3, y4⟩ := add_end (x := ⟨⟨kd, sy, n, (planF F S).2⟩, ka, kc⟩) (t := textX kd sy n F) (S' := S') hl hst hA' (by omega) lRN hBw (by rw [hpf]; exact HS'.out) (fun p hp => by have hp' : ka = some p := hp; rw [hp']; rfl) hklt b2 g3 r2 r3 t4 b5 q1' q2 q3' t7
            have hR2 : R0.2 = (L'.length : Int) := by rw [hRe.out]; show ((planF F S).1.length : Int) = _; rw [HS'.out, HLL.out]
            have hR1 : R0.1 = S' ++ [(textX kd sy n F, ⟨kd, sy, n, (planF F S).2⟩)] := by rw [hRe.out]; show (planF F S).1 ++ _ = _; rw [HS'.out]
            refine bodyPost_ret (results_add (p := 6) (u := 7) (q := 8) rfl _ _ R _ _ _ _ _ rfl hRz) rfl ⟨.slice va3 (L'.length + 1) vc3, L' ++ [⟨⟨kd, sy, n, (planF F S).2⟩, ka, kc⟩], .slice ta6 (S'.length + 1) tc6, by rw [hR2]; first | rfl | (rw [hwrap]; rfl), by rw [hR1]; exact y1, y2, y3, y4⟩
end Go.Proofs.YtlopjljmnadhcaaDoor
