/- An engine, as plain data; where it lies in memory; one that came in; the laws' own count of it. -/
import Derived.Test.YthlddehmebgfoaaGx1
import Derived.Test.YthlddehmebgfoaaRu1
namespace Go.Proofs.Ythlddehmebgfoaa
open Go.ChangeShapes Go.WideShapes Go.ChangeAt Go.RowKit Go.Deep
set_option linter.unusedVariables false
set_option maxRecDepth 4000

/-- An engine: its rules, a graph for each, all that happened, keys, and what followed. -/
structure Nx where
  ru : List Ru
  gr : List Gx
  ev : List Ev
  ks : List Int
  fi : List Fx
/-- Where its lists begin, and how much room they have. -/
structure XA where
  a0 : Option Addr
  a1 : Option Addr
  a2 : Option Addr
  a3 : Option Addr
  a4 : Option Addr
  c0 : Nat
  c1 : Nat
  c2 : Nat
  c3 : Nat
  c4 : Nat
def nxC (x : Nx) (p : XA) : Array Value := #[.slice p.a0 x.ru.length p.c0, .slice p.a1 x.gr.length p.c1, .slice p.a2 x.ev.length p.c2, .slice p.a3 x.ks.length p.c3, .slice p.a4 x.fi.length p.c4]
def nxV (x : Nx) (p : XA) : Value := .agg (nxC x p)
structure NxIn (w : World) (p : XA) (x : Nx) : Prop where
  ru : Rus w p.a0 x.ru
  gr : Gxs w p.a1 x.gr
  ev : Evs w p.a2 x.ev
  ks : Ints w p.a3 x.ks
  fi : Fxs w p.a4 x.fi
theorem NxIn.below {w w' : World} {p : XA} {x : Nx} (h : NxIn w p x) (hb : Below w.heap.size w w') : NxIn w' p x :=
  ⟨h.ru.below hb, h.gr.below hb, h.ev.below hb, h.ks.below hb, h.fi.below hb⟩
structure Nx.Wf (x : Nx) : Prop where
  gr : ∀ g ∈ x.gr, g.Wf
  ev : ∀ e ∈ x.ev, e.Wf
  ks : ∀ k ∈ x.ks, I64 k
  fi : ∀ f ∈ x.fi, f.Wf
/-- The five cells of one. -/
def FiveN (w : World) (b : Nat) (x : Nx) (p : XA) : Prop :=
  w.cell? ⟨b, 0, none⟩ = some (.slice p.a0 x.ru.length p.c0) ∧ w.cell? ⟨b, 1, none⟩ = some (.slice p.a1 x.gr.length p.c1) ∧ w.cell? ⟨b, 2, none⟩ = some (.slice p.a2 x.ev.length p.c2) ∧ w.cell? ⟨b, 3, none⟩ = some (.slice p.a3 x.ks.length p.c3) ∧ w.cell? ⟨b, 4, none⟩ = some (.slice p.a4 x.fi.length p.c4)
theorem Bx.fiveN {w : World} {A : Nat} {x : Nx} {p : XA} (h : Bx w A (nxC x p)) : FiveN w A x p :=
  ⟨h.cell 0 rfl, h.cell 1 rfl, h.cell 2 rfl, h.cell 3 rfl, h.cell 4 rfl⟩

section
variable {H : Type} {enc : TypeId × Value → H} {W : World}
theorem open_evs_trod {fuel : Nat} {cs : List Value} {x : DataW H × List MemPlace} (h : DataW.trod enc Try.prog W 0 (fun _ => true) true fuel 24 cs = some x) :
    ∃ a cap, ∃ l : List Ev, cs = [.slice a l.length cap] ∧ Evs W a l ∧ ∀ e ∈ l, e.Wf := by
  rcases DataW.trod_slice Try.underlying24 h with ⟨rfl, _⟩ | ⟨a, len, cap, elems, rest, n, rfl, rfl, _, hb, hl, hm, hlen, hel, _, _⟩
  · exact ⟨none, 0, [], rfl, ⟨by simp, by simp⟩, by simp⟩
  · have k3 : Try.prog.cellsOf 99 = 3 := by kernel_rfl
    rw [k3] at hel
    by_cases h00 : len = 0
    · subst h00
      exact ⟨_, cap, [], rfl, ⟨by simp, by simp⟩, by simp⟩
    obtain ⟨b, off, spot⟩ := a
    have one : ∀ i, i < len → ∃ cs' y, W.cells? 0 (Addr.add ⟨b, off, spot⟩ (i * 3)) 3 = some cs' ∧ DataW.trod enc Try.prog W 0 (fun _ => true) true n 99 cs' = some y := by
      intro i hi
      have := hel i hi
      rw [List.getElem?_eq_getElem (by omega)] at this
      exact Option.bind_eq_some_iff.1 this |>.elim fun cs' hc => ⟨cs', _, hc.1, hc.2⟩
    have hspot : spot = none := by
      obtain ⟨cs', y, h1, h2⟩ := one 0 (by omega)
      obtain ⟨_, hlen, hcell⟩ := World.cells?_some h1
      have := hcell 0 (by omega)
      rw [List.getElem?_eq_getElem (by omega)] at this
      simpa [Addr.add] using World.cell?_spot this
    subst hspot
    have inh : Inhabited Ev := ⟨⟨0, 0, 0⟩⟩
    obtain ⟨F, hF⟩ := choose_lt (α := Ev) (n := len) (p := fun i e => W.cell? ⟨b, off + i * 3, none⟩ = some (.int .i64 e.sym) ∧ W.cell? ⟨b, off + i * 3 + 1, none⟩ = some (.int .i64 e.at') ∧ W.cell? ⟨b, off + i * 3 + 2, none⟩ = some (.int .i64 e.val) ∧ e.Wf) (fun i hi => by
      obtain ⟨cs', y, h1, h2⟩ := one i hi
      rw [add_plain] at h1
      exact one_ev h1 h2)
    refine ⟨_, cap, (List.range len).map F, by simp, ⟨by simp; omega, fun _ => ⟨b, off, rfl, block_lt (hF 0 (by omega)).1, fun i hi => ?_⟩⟩, ?_⟩
    · simp only [List.length_map, List.length_range] at hi
      have := hF i hi
      simpa using ⟨this.1, this.2.1, this.2.2.1⟩
    · intro e he
      simp only [List.mem_map, List.mem_range] at he
      obtain ⟨i, hi, rfl⟩ := he
      exact (hF i hi).2.2.2

theorem open_eng {base : Nat} {v0 : Value} {d0 : DataW H} {p0 : List MemPlace} (hv : Value.okWide Try.prog W .any base 28 v0) (h0 : DataW.Trod enc Try.prog W 0 (fun _ => true) true 28 v0 d0 p0) :
    ∃ (x : Nx) (p : XA), v0 = nxV x p ∧ NxIn W p x ∧ x.Wf := by
  have k3 : Try.prog.cellsOf 28 = 5 := by kernel_rfl
  obtain ⟨cs, rfl, hsz⟩ := okWide_struct Try.underlying28 hv
  rw [k3] at hsz
  obtain ⟨fuel, hf⟩ := h0
  obtain ⟨cl⟩ := cs
  match cl, hsz with
  | [c0, c1, c2, c3, c4], _ =>
    obtain ⟨m, hm⟩ := trod_struct5 Try.underlying28 hf
    have k0 : Try.prog.cellsOf 22 = 1 := by kernel_rfl
    have k1 : Try.prog.cellsOf 23 = 1 := by kernel_rfl
    have k2 : Try.prog.cellsOf 24 = 1 := by kernel_rfl
    have k4 : Try.prog.cellsOf 25 = 1 := by kernel_rfl
    have k5 : Try.prog.cellsOf 26 = 1 := by kernel_rfl
    obtain ⟨_, t0⟩ := hm _ (List.mem_cons_self)
    obtain ⟨_, t1⟩ := hm _ (List.mem_cons_of_mem _ (List.mem_cons_self))
    obtain ⟨_, t2⟩ := hm _ (List.mem_cons_of_mem _ (List.mem_cons_of_mem _ (List.mem_cons_self)))
    obtain ⟨_, t3⟩ := hm _ (List.mem_cons_of_mem _ (List.mem_cons_of_mem _ (List.mem_cons_of_mem _ (List.mem_cons_self))))
    obtain ⟨_, t4⟩ := hm _ (List.mem_cons_of_mem _ (List.mem_cons_of_mem _ (List.mem_cons_of_mem _ (List.mem_cons_of_mem _ (List.mem_cons_self)))))
    simp only [k0, k1, k2, k4, k5] at t0 t1 t2 t3 t4
    simp [Value.cells] at t0 t1 t2 t3 t4
    obtain ⟨a0, p0, l0, e0, h0⟩ := open_rus_trod t0
    obtain ⟨a1, p1, l1, e1, h1, g1⟩ := open_gxs_trod t1
    obtain ⟨a2, p2, l2, e2, h2, g2⟩ := open_evs_trod t2
    obtain ⟨a3, p3, l3, e3, h3, g3⟩ := open_ints_trod t3
    obtain ⟨a4, p4, l4, e4, h4, g4⟩ := open_fxs_trod t4
    simp at e0 e1 e2 e3 e4
    subst e0 e1 e2 e3 e4
    exact ⟨⟨l0, l1, l2, l3, l4⟩, ⟨a0, a1, a2, a3, a4, p0, p1, p2, p3, p4⟩, rfl, ⟨h0, h1, h2, h3, h4⟩, ⟨g1, g2, g3, g4⟩⟩
end

def nxSize (x : Nx) : Nat := rusSize x.ru + gxsSize x.gr + x.ev.length + x.ks.length + fxsSize x.fi

set_option maxHeartbeats 2000000 in
theorem szEng_any (x : Nx) (p : XA) (left : Int) (w : World) (h : NxIn w p x) (h0 : 0 ≤ left) (h1 : left ≤ 1048576) :
    Calls Try.prog 4 #[nxV x p, .int .i64 left] w fun e w' => e = .returned (.int .i64 (szDown left (nxSize x))) ∧ Below w.heap.size w w' := by
  obtain ⟨G, hG⟩ : ∃ G, szDown left (nxSize x) = G := ⟨_, rfl⟩
  rw [hG]
  have hse : Hid (nxSize x = rusSize x.ru + gxsSize x.gr + x.ev.length + x.ks.length + fxsSize x.fi) := rfl
  have HG : Hid (szDown left (nxSize x) = G) := hG
  clear hG
  obtain ⟨w0, hw0⟩ : ∃ w0, w.alloc (.cells (nxC x p) 28) = w0 := ⟨_, rfl⟩
  have hA0 := bx_new w (nxC x p) 28
  have b0 := oBelow_new w (.cells (nxC x p) 28)
  rw [hw0] at hA0 b0
  obtain ⟨q0, q1, q2, q3, q4⟩ := hA0.fiveN
  have hi0 := h.below b0
  unfold nxV
  unfold nxC at hw0 ⊢
  go_enter Try.func4, Try.ntmps4
  go_wp2_with fail
  refine (szRuleS_any _ _ x.ru _ _ hi0.ru h0 h1).mono ?_
  rintro e w1 ⟨rfl, hb1⟩
  have b1 := b0.trans (hb1.mono b0.size)
  have hA1 := hA0.below hb1
  have hi1 := hi0.below hb1
  clear q0 q1 q2 q3 q4
  obtain ⟨q0, q1, q2, q3, q4⟩ := hA1.fiveN
  by_cases l0 : left - (rusSize x.ru : Int) < 0
  · have hz : szLeft left (rusSize x.ru) = -1 := if_pos l0
    rw [hz]
    go_wp2
    go_ret
    exact ⟨by rw [← HG.out, show szDown left (nxSize x) = -1 from if_pos (by have := hse.out; omega)]; rfl, b1⟩
  · have hz : szLeft left (rusSize x.ru) = left - (rusSize x.ru : Int) := if_neg l0
    rw [hz]
    go_wp2_with fail
    refine (szGraphS_any _ _ x.gr _ _ hi1.gr (by omega) (by omega)).mono ?_
    rintro e w2 ⟨rfl, hb2⟩
    have b2 := b1.trans (hb2.mono b1.size)
    have hA2 := hA1.below hb2
    have hi2 := hi1.below hb2
    clear q0 q1 q2 q3 q4
    obtain ⟨q0, q1, q2, q3, q4⟩ := hA2.fiveN
    by_cases l1 : left - (rusSize x.ru : Int) - (gxsSize x.gr : Int) < 0
    · have hz : szDown (left - (rusSize x.ru : Int)) (gxsSize x.gr) = -1 := if_pos l1
      rw [hz]
      go_wp2
      go_ret
      exact ⟨by rw [← HG.out, show szDown left (nxSize x) = -1 from if_pos (by have := hse.out; omega)]; rfl, b2⟩
    · have hz : szDown (left - (rusSize x.ru : Int)) (gxsSize x.gr) = left - (rusSize x.ru : Int) - (gxsSize x.gr : Int) := if_neg l1
      rw [hz]
      go_wp2_with fail
      refine (szEvS_any _ _ _ _ _ h.ev.len (by omega) (by omega)).mono ?_
      rintro e w3 ⟨rfl, rfl⟩
      by_cases l2 : left - (rusSize x.ru : Int) - (gxsSize x.gr : Int) - (x.ev.length : Int) < 0
      · have hz : (if left - (rusSize x.ru : Int) - (gxsSize x.gr : Int) - (x.ev.length : Int) < 0 then (-1 : Int) else left - (rusSize x.ru : Int) - (gxsSize x.gr : Int) - (x.ev.length : Int)) = -1 := if_pos l2
        rw [hz]
        go_wp2
        go_ret
        exact ⟨by rw [← HG.out, show szDown left (nxSize x) = -1 from if_pos (by have := hse.out; omega)]; rfl, b2⟩
      · have hz : (if left - (rusSize x.ru : Int) - (gxsSize x.gr : Int) - (x.ev.length : Int) < 0 then (-1 : Int) else left - (rusSize x.ru : Int) - (gxsSize x.gr : Int) - (x.ev.length : Int)) = left - (rusSize x.ru : Int) - (gxsSize x.gr : Int) - (x.ev.length : Int) := if_neg l2
        rw [hz]
        go_wp2_with fail
        refine (szIntS_any _ _ _ _ _ h.ks.len (by omega) (by omega)).mono ?_
        rintro e w4 ⟨rfl, rfl⟩
        by_cases l3 : left - (rusSize x.ru : Int) - (gxsSize x.gr : Int) - (x.ev.length : Int) - (x.ks.length : Int) < 0
        · have hz : szDown (left - (rusSize x.ru : Int) - (gxsSize x.gr : Int) - (x.ev.length : Int)) (x.ks.length) = -1 := if_pos l3
          rw [hz]
          go_wp2
          go_ret
          exact ⟨by rw [← HG.out, show szDown left (nxSize x) = -1 from if_pos (by have := hse.out; omega)]; rfl, b2⟩
        · have hz : szDown (left - (rusSize x.ru : Int) - (gxsSize x.gr : Int) - (x.ev.length : Int)) (x.ks.length) = left - (rusSize x.ru : Int) - (gxsSize x.gr : Int) - (x.ev.length : Int) - (x.ks.length : Int) := if_neg l3
          rw [hz]
          go_wp2_with fail
          refine (szFireS_any _ _ x.fi _ _ hi2.fi (by omega) (by omega)).mono ?_
          rintro e w5 ⟨rfl, hb5⟩
          have b5 := b2.trans (hb5.mono b2.size)
          have hA5 := hA2.below hb5
          have hi5 := hi2.below hb5
          clear q0 q1 q2 q3 q4
          obtain ⟨q0, q1, q2, q3, q4⟩ := hA5.fiveN
          by_cases l4 : left - (rusSize x.ru : Int) - (gxsSize x.gr : Int) - (x.ev.length : Int) - (x.ks.length : Int) - (fxsSize x.fi : Int) < 0
          · have hz : szDown (left - (rusSize x.ru : Int) - (gxsSize x.gr : Int) - (x.ev.length : Int) - (x.ks.length : Int)) (fxsSize x.fi) = -1 := if_pos l4
            rw [hz]
            go_wp2
            go_ret
            exact ⟨by rw [← HG.out, show szDown left (nxSize x) = -1 from if_pos (by have := hse.out; omega)]; rfl, b5⟩
          · have hz : szDown (left - (rusSize x.ru : Int) - (gxsSize x.gr : Int) - (x.ev.length : Int) - (x.ks.length : Int)) (fxsSize x.fi) = left - (rusSize x.ru : Int) - (gxsSize x.gr : Int) - (x.ev.length : Int) - (x.ks.length : Int) - (fxsSize x.fi : Int) := if_neg l4
            rw [hz]
            go_wp2
            go_ret
            exact ⟨by rw [← HG.out, show szDown left (nxSize x) = left - (rusSize x.ru : Int) - (gxsSize x.gr : Int) - (x.ev.length : Int) - (x.ks.length : Int) - (fxsSize x.fi : Int) from by unfold szDown; have := hse.out; rw [if_neg (by omega)]; omega]; rfl, b5⟩
end Go.Proofs.Ythlddehmebgfoaa
