/- The program puts a part, and all its parts ahead of it, into its plan: its walk. -/
import Derived.Test.YtlopjljmnadhcaaDoorPlanC
import Derived.Test.YtlopjljmnadhcaaDoorExT3
import Derived.Deep.RegionHeld
namespace Go.Proofs.YtlopjljmnadhcaaDoor
open Go.ChangeShapes Go.WideShapes Go.ChangeAt Go.RowKit
set_option linter.unusedVariables false
set_option maxRecDepth 4000

theorem formX_up {d : Nat} {kd sy n : Int} {F : Fo} (h : formX d kd sy n F = true) : formX (d + 1) kd sy n F = true := by
  cases d with
  | zero => simp [formX] at h
  | succ d =>
    simp only [formX, Bool.and_eq_true] at h ⊢
    exact ⟨h.1, formF_up d F h.2⟩
theorem formX_to {d e : Nat} {kd sy n : Int} {F : Fo} (h : formX d kd sy n F = true) (hde : d ≤ e) : formX e kd sy n F = true := by
  induction e with
  | zero => obtain rfl : d = 0 := by omega
            exact h
  | succ e ih =>
    rcases Nat.lt_or_ge d (e + 1) with h1 | h1
    · exact formX_up (ih (by omega))
    · obtain rfl : d = e + 1 := by omega
      exact h
theorem textOf_form {d : Nat} {kd sy n : Int} {F : Fo} (h : formX d kd sy n F = true) (hd : d ≤ 5) (hs : 1 + F.size ≤ 12) : textOf kd sy n F = textX kd sy n F := by
  have : okX kd sy n F = true := by simp only [okX, Bool.and_eq_true, decide_eq_true_eq]; exact ⟨formX_to h hd, hs⟩
  simp [textOf, this]

set_option maxHeartbeats 4000000 in
theorem put_any (w0 : World) (te : TypeId) (ve : Value) (hE : ErrAt w0 te ve) : ∀ (d : Nat), d ≤ 5 → ∀ (kd sy n : Int) (a : Option Addr) (cap : Nat) (F : Fo) (S : Pl) (PB H : Nat) (v : Value) (L : List GC) (w : World), Slc w0 a F → formX d kd sy n F = true → 1 + F.size ≤ 12 → Below w0.heap.size w0 w →
    ImSt w w0.heap.size PB H v L S → (S.map (·.1)).Nodup → S.length + F.size ≤ 100000 →
    Calls Tryd.prog 23 #[.pointer (some ⟨PB, 0, none⟩), .agg #[.int .i64 kd, .int .i64 sy, .int .i64 n, .slice a F.len cap]] w (PutPost w w0.heap.size PB H v L (planX kd sy n F S)) := by
  intro d
  induction d with
  | zero => intro _ kd sy n a cap F S PB H v L w _ hf; simp [formX] at hf
  | succ d ih =>
    intro hd5 kd sy n a cap F S PB H v L w h hf h12 hw hst hnd hS
    have hff : formF d F = true := by simp only [formX, Bool.and_eq_true] at hf; exact hf.2
    have htx := textOf_form hf hd5 h12
    obtain ⟨B, hB⟩ : ∃ B, w0.heap.size = B := ⟨_, rfl⟩
    have hwB : Below B w0 w := by rw [← hB]; exact hw
    have hBw : B ≤ w.heap.size := by have := hwB.size; omega
    rw [hB] at hst ⊢
    obtain ⟨va, vc, hv⟩ := gOwns_slice hst.own.row
    rw [hst.len] at hv
    subst hv
    obtain ⟨R0, hR0⟩ : ∃ R0, planX kd sy n F S = R0 := ⟨_, rfl⟩
    rw [hR0]
    have HR : Hid (planX kd sy n F S = R0) := hR0
    clear hR0
    have hpl := hst.box.lt
    have hml := hst.map.lt
    obtain ⟨X, hX⟩ : ∃ X, w.heap.size = X := ⟨_, rfl⟩
    obtain ⟨u1, hu1⟩ : ∃ u1, w.alloc (.cells #[.int .i64 kd, .int .i64 sy, .int .i64 n, .slice a F.len cap] 32) = u1 := ⟨_, rfl⟩
    have hX1 := gb_new w #[.int .i64 kd, .int .i64 sy, .int .i64 n, .slice a F.len cap] 32
    have b1 := gBelow_new w (.cells #[.int .i64 kd, .int .i64 sy, .int .i64 n, .slice a F.len cap] 32)
    rw [hu1] at hX1 b1
    rw [hX] at hX1
    have bw1 : Below B w0 u1 := hwB.trans (b1.mono hBw)
    have hF1 : Slc u1 a F := h.below (by rw [hB]; exact bw1)
    have hE1 : ErrAt u1 te ve := hE.below (by rw [hB]; exact bw1)
    have q0 := hX1.at 0
    have q1 := hX1.at 1
    have q2 := hX1.at 2
    have q3 := hX1.at 3
    go_enter Tryd.func23, Tryd.ntmps23
    go_wp2_with fail
    refine (implExText_any kd sy n a cap F _ te ve hE1 hF1).mono ?_
    rintro e w2 ⟨rfl, hb2⟩
    rw [htx]
    have b2 := b1.trans (hb2.mono b1.size)
    have st2 := hst.below b2
    have hX2 := hX1.below hb2
    clear q0 q1 q2 q3 hu1
    have p0 := st2.box.at 0
    have p1 := st2.box.at 1
    have hlook := lookup_map (textX kd sy n F) hnd st2.map
    cases hidx : idxT (textX kd sy n F) S with
    | some i =>
      have hp := planX_there hidx
      have hRe : Hid (R0 = (S, (i : Int))) := by show _ = _; rw [← HR.out, hp]
      rw [hidx] at hlook
      simp only at hlook
      clear hp hidx HR
      go_wp2
      go_ret
      exact ⟨_, L, by rw [hRe.out]; rfl, by rw [hRe.out]; exact st2, Turn.of_below b2, fun b hb => .inl hb, fun b hb => .inl hb⟩
    | none =>
      have hp := planX_new hidx
      have hRe : Hid (R0 = ((planF F S).1 ++ [(textX kd sy n F, ⟨kd, sy, n, (planF F S).2⟩)], ((planF F S).1.length : Int))) := by show _ = _; rw [← HR.out, hp]
      rw [hidx] at hlook
      simp only at hlook
      have Hidx : Hid (idxT (textX kd sy n F) S = none) := hidx
      clear hp hidx HR
      have q0 := hX2.at 0
      have q1 := hX2.at 1
      have q2 := hX2.at 2
      have q3 := hX2.at 3
      obtain ⟨N, hN⟩ : ∃ N, w2.heap.size = N := ⟨_, rfl⟩
      have lXN : X < N := by have := hX2.lt; omega
      have hNz := gb_new w2 #[.int .i64 kd, .int .i64 sy, .int .i64 n, .slice none 0 0, .slice none 0 0, .slice none 0 0, .slice none 0 0, .slice none 0 0, .slice none 0 0, .int .i64 0] 69
      have bNz := gBelow_new w2 (.cells #[.int .i64 kd, .int .i64 sy, .int .i64 n, .slice none 0 0, .slice none 0 0, .slice none 0 0, .slice none 0 0, .slice none 0 0, .slice none 0 0, .int .i64 0] 69)
      have hXz := hX2.below bNz
      have q3z := hXz.at 3
      have hstart : PutLoop w (w2.alloc (.cells #[.int .i64 kd, .int .i64 sy, .int .i64 n, .slice none 0 0, .slice none 0 0, .slice none 0 0, .slice none 0 0, .slice none 0 0, .slice none 0 0, .int .i64 0] 69)) B PB H N kd sy n F (.slice va S.length vc) L S 0 (.slice va S.length vc) L (.slice none 0 0) :=
        ⟨by rw [hN] at hNz; exact hNz, by rw [planTo_zero]; exact World.ownsRow_nil _ _ _ _, by rw [planTo_zero]; exact st2.below bNz, fun b hb => (by cases hb), fun b hb => .inl hb, fun b hb => .inl hb, Turn.of_below (b2.trans (bNz.mono b2.size))⟩
      go_wp2
      clear q0 q1 q2 q3 q3z hlook p0 p1
      go_loopw [10, 35] (fun kb i wr => ∃ (k : Nat) (v' : Value) (L' : List GC) (kv : Value), k ≤ F.len ∧ i = .int .i64 k ∧ PutLoop w wr B PB H N kd sy n F (.slice va S.length vc) L S k v' L' kv) (fun _ i _ => F.len - (intOf i).toNat)
      case atStart => exact ⟨0, _, L, _, Nat.zero_le _, rfl, hstart⟩
      case round =>
        clear hstart hNz bNz
        obtain ⟨k, v', L', kv, hk, rfl, hl⟩ := hrel
        have hNl := hl.hN.lt
        have lN : w.heap.size ≤ N := by omega
        have hge := hst.ge
        have bwr : Below B w0 wr := hwB.trans (hl.turn.below (fun b hb => by
          rcases hb with hb | hb | hb
          · omega
          · omega
          · exact (gOwns_lt hst.own.row b hb).1) hBw)
        have hBr : B ≤ wr.heap.size := by have := hl.turn.size; omega
        obtain ⟨va', vc', hv'⟩ := gOwns_slice hl.st.own.row
        rw [hl.st.len] at hv'
        subst hv'
        obtain ⟨ka, kc, rfl⟩ := gOwns_slice hl.kids
        have hFl : F.len ≤ F.size := by rw [Fo.size_eq]; omega
        by_cases hlt : k < F.len
        · obtain ⟨b, off, kd', sy', n', kids, p, cp, rfl, hbl, hdr, hsz, c0, c1, c2, c3, hkids⟩ := h.at hlt
          obtain ⟨f1, f2, f3⟩ := form_step k d F kd' sy' n' kids hff hdr
          rw [hB] at hbl
          rw [← bwr.cell (p := ⟨b, off + k * 4, none⟩) hbl] at c0
          rw [← bwr.cell (p := ⟨b, off + k * 4 + 1, none⟩) hbl] at c1
          rw [← bwr.cell (p := ⟨b, off + k * 4 + 2, none⟩) hbl] at c2
          rw [← bwr.cell (p := ⟨b, off + k * 4 + 3, none⟩) hbl] at c3
          have hroom := planTo_room k F S
          have hdsz : (F.drop k).size = kids.size + (F.drop (k + 1)).size + 1 := by rw [hdr]; rfl
          have hd1 : formF (d - 1 + 1) F = true := by
            cases d with
            | zero => simp [formX] at f1
            | succ d => exact hff
          have hndk := planTo_nodup k (d - 1) F S hd1 hnd
          obtain ⟨wk, hwk⟩ : ∃ wk, wr.alloc (.cells #[.int .i64 kd', .int .i64 sy', .int .i64 n', .slice p kids.len cp] 32) = wk := ⟨_, rfl⟩
          have bk : Below wr.heap.size wr wk := by rw [← hwk]; exact gBelow_new _ _
          have hKk : GB wk wr.heap.size #[.int .i64 kd', .int .i64 sy', .int .i64 n', .slice p kids.len cp] := by rw [← hwk]; exact gb_new _ _ _
          have stk := hl.st.below bk
          have hcall := fun (u : World) (hu : Below wk.heap.size wk u) => ih (by omega) kd' sy' n' p cp kids (planTo k F S).1 PB H (.slice va' (planTo k F S).1.length vc') L' u hkids f1 (by omega) (by rw [hB]; exact (bwr.trans (bk.mono hBr)).trans (hu.mono (by have := bk.size; omega))) (by rw [hB]; exact stk.below hu) hndk (by omega)
          have hNk := hl.hN.below bk
          have n3 := hNk.at 3
          have k0 := hKk.at 0
          have k1 := hKk.at 1
          have k2 := hKk.at 2
          have k3 := hKk.at 3
          go_wp2_with fail
          go_region_law (first
            | refine gstep_append_run rfl (.tmp 40) (.tmp 44) 62 rfl _ _ rfl rfl hrun ?_
            | (go_simp; go_wp2_with (go_at_call 23; refine (hcall _ (by first | exact (Below.refl _ _).drew | exact Below.refl _ _)).mono ?_; rintro e w5 ⟨v5, L5, rfl, st5, tn5, all5, xs5⟩; rw [hB] at st5; have tn5' : Turn (ImX PB H (.slice va' (planTo k F S).1.length vc')) wk w5 := (Turn.of_below ((Below.refl wk.heap.size wk).drew)).trans tn5; obtain ⟨w7, hw7⟩ : ∃ w7, w5.alloc (.cells #[.int .i64 (planX kd' sy' n' kids (planTo k F S).1).2] 3) = w7 := ⟨_, rfl⟩; obtain ⟨v8, w8, hrun, r1, r2, r3⟩ := put_append hl hst lN (by omega) bk tn5' hw7; obtain ⟨ka8, kc8, rfl⟩ := gOwns_slice r1; have b7 : Below w5.heap.size w5 w7 := (by rw [← hw7]; exact gBelow_new _ _); have s5 := tn5'.size; have s7 := b7.size; have hN5 := hNk.of (tn5'.same N (by have := bk.size; omega) (hl.nx hst lN (Nat.le_refl _))); have hN8 := (hN5.below b7).of (r2.block N (by have := bk.size; omega) (fun e => by have := gOwns_lt hl.kids N e.symm; omega)); have m3 := hN5.at 3; have m7 := (hN5.below b7).at 3; have e3 := hN8.at 3; have fN := hN8.free; have hend := put_round hl hst lN hdr bk st5 tn5' all5 xs5 b7 r1 r2 r3 rfl)))
          all_goals
            go_wp2
            exact ⟨⟨k + 1, _, L5, _, by omega, by go_num, hend⟩, by simp [intOf]; omega⟩
        · have hpf := planTo_full k F S (by omega)
          have hpl : (planF F S).2.length = k := by have := planTo_places k F S; rw [hpf] at this; rw [this]; omega
          have hks := hl.kids
          rw [hpf] at hks
          have hst' := hl.st
          rw [hpf] at hst'
          have hll := hst'.len
          have hSl := (planF_len F S).2
          rw [hpf] at hl
          obtain ⟨S', hS'⟩ : ∃ S', (planF F S).1 = S' := ⟨_, rfl⟩
          have hnd' : (S'.map (·.1)).Nodup := by rw [← hS']; exact planF_nodup d F S hff hnd
          have hfr : idxT (textX kd sy n F) S' = none := by rw [← hS']; exact idxT_all (planF_fresh (d := d) hf Hidx.out)
          rw [hS'] at hl hst' hll hSl
          have hSb : S'.length ≤ 100000 := by omega
          have hLb : L'.length ≤ 100000 := by omega
          have HS' : Hid ((planF F S).1 = S') := hS'
          have hkap := hl.kap
          have hklt : ∀ b, (Value.slice ka k kc).ownBlock = some b → N < b ∧ b < wr.heap.size := fun b hb => by have := gOwns_lt hks b hb; omega
          have p0 := hst'.box.at 0
          have p1 := hst'.box.at 1
          obtain ⟨w2', hrunu, m2, g2, z2⟩ := update_map ⟨kd, sy, n, (planF F S).2⟩ hnd' hst'.map hfr
          have s2 := g2.size
          have gd : wr.grownBy w2'.drew (some H) := ⟨g2.os, g2.tape, g2.output, g2.size, g2.block⟩
          have ownd : GcOwn w2'.drew B (.slice va' L'.length vc') L' := by
            rw [hll]
            exact hst'.own.keep s2 (fun b hb => gd.block b (hst'.own.blk_lt hb).2 (fun e => (hst'.ap b hb).2 (by simpa using e)))
          have kind : w2'.drew.ownsRow (N + 1) 3 1 (.slice ka k kc) k (intCells (planF F S).2) := gOwns_turn hks (fun b hb => gd.block b (hklt b hb).2 (fun e => by have := hklt b hb; have : b = H := (by simpa using e); omega))
          obtain ⟨w3, hw3⟩ : ∃ w3, w2'.drew.alloc (.cells #[.int .i64 kd, .int .i64 sy, .int .i64 n, .slice ka k kc, .slice none 0 0, .slice none 0 0, .slice none 0 0, .slice none 0 0, .slice none 0 0, .int .i64 0] 69) = w3 := ⟨_, rfl⟩
          have b3 : Below w2'.heap.size w2' w3 := by rw [← hw3]; exact ((Below.refl w2'.heap.size w2').drew).trans (gBelow_new w2'.drew _)
          obtain ⟨v4, w4, hrun4, g4, r2, r3⟩ := gc_append (w2 := w3) (x := ⟨⟨kd, sy, n, (planF F S).2⟩, ka, kc⟩) ownd (gInt_of_row (n := k) (cap := kc) (by show w2'.drew.ownsRow (N + 1) _ 1 _ (planF F S).2.length _; rw [hpl]; exact kind) (by omega))
            (fun p hp => by have := (hklt p.block (by have hp' : ka = some p := hp; rw [hp']; rfl)).2; show p.block < w2'.heap.size; omega) (fun p hp hg => hkap p.block (by have hp' : ka = some p := hp; rw [hp']; rfl) (by rw [hll] at hg; exact hg)) hLb (by rw [← hw3]; simp only [hpl]) (by show B ≤ w2'.heap.size; omega)
          obtain ⟨va4, vc4, hv4⟩ := gOwns_slice g4.row
          rw [show (L' ++ [(⟨⟨kd, sy, n, (planF F S).2⟩, ka, kc⟩ : GC)]).length = S'.length + 1 by simp [hll]] at hv4
          subst hv4
          rw [hll] at hrun4 r2 r3
          have hrun5 : (Builtin.append_ #[26, 26] 26 #[.slice va' S'.length vc', .slice (some ⟨w2'.heap.size, 0, none⟩) 1 1]).run Tryd.prog w3 = .ok (.slice va4 (S'.length + 1) vc4) w4 := hrun4
          clear hrun4
          clear hll hSl hpl ownd
          have s3 := b3.size
          have s4 := r2.size
          have hN2 := hl.hN.of (gd.block N hNl (fun e => by have : N = H := (by simpa using e); omega))
          have hP2 := hst'.box.of (gd.block PB hst'.box.lt (fun e => hst'.ne (by simpa using e)))
          have hN3 := hN2.below (w' := w3) (by rw [← hw3]; exact gBelow_new w2'.drew _)
          have hP3 := hP2.below (w' := w3) (by rw [← hw3]; exact gBelow_new w2'.drew _)
          have hP4 := hP3.of (r2.block PB hP3.lt (fun e => (hst'.ap PB (.inl e.symm)).1 rfl))
          have hN4 := hN3.of (r2.block N hN3.lt (fun e => hl.safe hst (b := N) (by omega) (by omega) (.inl e.symm)))
          have a0 := hN2.at 0
          have a1 := hN2.at 1
          have a2 := hN2.at 2
          have a3 := hN2.at 3
          have a4 := hN2.at 4
          have a5 := hN2.at 5
          have a6 := hN2.at 6
          have a7 := hN2.at 7
          have a8 := hN2.at 8
          have a9 := hN2.at 9
          have pp0 := hP2.at 0
          have pp3 := hP3.at 0
          have pp4 := hP4.at 0
          have fP := hP4.free
          have hendm := put_end (x := ⟨⟨kd, sy, n, (planF F S).2⟩, ka, kc⟩) (t := textX kd sy n F) (S' := S') hl hst lN (by rw [hpf]; exact HS'.out) (fun p hp => by have hp' : ka = some p := hp; rw [hp']; rfl) hklt m2 g2 b3 g4 r2 r3 rfl
          have hR2 : R0.2 = (S'.length : Int) := by rw [hRe.out]; show ((planF F S).1.length : Int) = _; rw [HS'.out]
          have hR1 : R0.1 = S' ++ [(textX kd sy n F, ⟨kd, sy, n, (planF F S).2⟩)] := by rw [hRe.out]; show (planF F S).1 ++ _ = _; rw [HS'.out]
          have HR2 : Hid (R0.2 = (S'.length : Int)) := hR2
          clear hR2
          have hNP : N ≠ PB := by omega
          have hPN : PB ≠ N := by omega
          have z0 := hN4.at 0
          have z1 := hN4.at 1
          have z2' := hN4.at 2
          have z3 := hN4.at 3
          have z4 := hN4.at 4
          have z5 := hN4.at 5
          have z6 := hN4.at 6
          have z7 := hN4.at 7
          have z8 := hN4.at 8
          have z9 := hN4.at 9
          go_wp2_with fail
          clear ih h hf hw hnd hff htx hst hpl hml hX1 b1 bw1 hF1 hE1 hb2 b2 st2 hX2 hRe Hidx hXz hl hst' hE hS hwB bwr hk hNl lN hge hBr hFl hlt hpf hks hS' hnd' hfr HS' hkap hklt p0 p1 hrunu m2 g2 z2 s2 gd kind b3 r2 g4 r3 s3 s4 hN2 hP2 hN3 hP3 hP4 hN4 hd5 h12 hBw lXN
          go_region_law (first | refine gstep_append_run rfl (.tmp 63) (.tmp 65) 26 rfl _ _ rfl rfl hrun5 ?_)
          all_goals
            go_wp2
            go_ret
            exact ⟨_, L' ++ [⟨⟨kd, sy, n, (planF F S).2⟩, ka, kc⟩], by rw [HR2.out]; rfl, by rw [hR1]; exact hendm.1, hendm.2.1, hendm.2.2.1, hendm.2.2.2⟩
end Go.Proofs.YtlopjljmnadhcaaDoor
