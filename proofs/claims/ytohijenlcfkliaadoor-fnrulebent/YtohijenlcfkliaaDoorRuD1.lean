/- Rules, drawn: at most four, each named by a word of its own. -/
import Derived.Test.YtohijenlcfkliaaDoorRuD
namespace Go.Proofs.YtohijenlcfkliaaDoor
open Go.ChangeShapes Go.WideShapes Go.ChangeAt Go.RowKit Go.Deep
set_option linter.unusedVariables false
set_option maxRecDepth 4000

/-- The bounds of a rule that was drawn. -/
def RuBnd (x : Ru) : Prop := x.ks.size ≤ 2000 ∧ x.nm.size ≤ 7
def RulesDraw (w : World) (R p d : Nat) (e : Ending) (w' : World) : Prop :=
  ∃ (v : Value) (q : List RH) (p' : Nat), e = .returned v ∧ Rd w' R p' ∧ p ≤ p' ∧ p' ≤ p + d ∧ w.grownBy w' (some R) ∧ RuOwn w' w.heap.size v q ∧ q.length ≤ 4 ∧ ∀ y ∈ q, RuBnd y.x
def nameOf (i : Nat) : ByteArray := if i = 0 then ⟨#[111, 110, 101]⟩ else if i = 1 then ⟨#[116, 119, 111]⟩ else if i = 2 then ⟨#[116, 104, 114, 101, 101]⟩ else ⟨#[102, 111, 117, 114]⟩
theorem nameOf_size (i : Nat) : (nameOf i).size ≤ 7 := by unfold nameOf; split; decide; split; decide; split <;> decide

set_option maxHeartbeats 4000000 in
theorem l8Rules_any (R p : Nat) (w : World) (h : Rd w R p) (hp : p ≤ 80000) : Calls Tryd.prog 39 #[.pointer (some ⟨R, 0, none⟩)] w (RulesDraw w R p 5300) := by
  have hRl := h.lt
  obtain ⟨w0, hw0⟩ : ∃ w0, w.alloc (.cells #[] 36) = w0 := ⟨_, rfl⟩
  have b0 := xBelow_new w (.cells #[] 36)
  have o0 : (w.alloc (.cells #[] 36)).ownsRow w.heap.size 36 12 (.slice (some ⟨w.heap.size, 0, none⟩) 0 0) 0 [] := World.ownsRow_made _ _ _ (Nat.le_refl _) (by simp [maxLen]) rfl
  rw [hw0] at b0 o0
  have hR0 := h.below b0
  have hg0 : w.grownBy w0 (some R) := grown_below' (grownBy_refl _ _) b0
  go_enter Tryd.func39, Tryd.ntmps39
  go_wp2_with fail
  refine (pick_any R 5 p _ hR0 (by omega) (by omega) (by omega)).mono ?_
  rintro e w1 ⟨c, rfl, _, hc4, hR1, hgp⟩
  have hc : c < 5 := by have := hc4 (by omega); omega
  have hg1 := grownBy_trans hg0 hgp
  have hRl0 : R < w0.heap.size := hR0.lt
  have O1 : RuOwn w1 w.heap.size (.slice (some ⟨w.heap.size, 0, none⟩) 0 0) [] := by
    have : RuOwn w0 w.heap.size (.slice (some ⟨w.heap.size, 0, none⟩) 0 0) [] := ⟨o0, fun y hy => by cases hy⟩
    exact this.grown hgp hRl
  clear hw0 o0 hc4 hgp hg0 hR0 b0
  go_wp2
  go_loopw [3, 4] (fun v i wr => ∃ (m : Nat) (q : List RH) (pr : Nat), i = .int .i64 m ∧ q.length + m ≤ 4 ∧ Rd wr R pr ∧ p ≤ pr ∧ Hid (pr ≤ p + 1 + 1300 * q.length) ∧ w.grownBy wr (some R) ∧ Hid (RuOwn wr w.heap.size v q) ∧ Hid (∀ y ∈ q, RuBnd y.x)) (fun _ i _ => (intOf i).toNat)
  case atStart => exact ⟨c, [], p + 1, rfl, by simp; omega, hR1, by omega, (by show p + 1 ≤ p + 1 + 1300 * 0; omega), hg1, O1, (fun y hy => absurd hy List.not_mem_nil : ∀ y ∈ ([] : List RH), RuBnd y.x)⟩
  case round =>
    obtain ⟨m, q, pr, rfl, hqm, hR, hp0, hp1, hg, hO, hB⟩ := hrel
    obtain ⟨va, vc, rfl, hvc, hvm⟩ := hO.out.slice
    by_cases hm : 0 < m
    · have hm' : (0 : Int) < (m : Int) := by omega
      obtain ⟨M, hM⟩ : ∃ M : Nat, m = M + 1 := ⟨m - 1, by omega⟩
      have HM : Hid (m = M + 1) := hM
      have hm1 : (m : Int) - 1 = (M : Int) := by omega
      have hM4 : M < 1000 := by omega
      clear hM
      have hql : q.length < 4 := by omega
      have hq2 : q.length ≤ 3 := by omega
      have hpr : pr ≤ 90000 := by have := hp1.out; omega
      have hwl : w.heap.size ≤ wr.heap.size := hg.4
      obtain ⟨u, hu⟩ : ∃ u, wr.alloc (.cells #[.string { data := #[111, 110, 101] }, .string { data := #[116, 119, 111] }, .string { data := #[116, 104, 114, 101, 101] }, .string { data := #[102, 111, 117, 114] }] 9) = u := ⟨_, rfl⟩
      have bu := xBelow_new wr (.cells #[.string { data := #[111, 110, 101] }, .string { data := #[116, 119, 111] }, .string { data := #[116, 104, 114, 101, 101] }, .string { data := #[102, 111, 117, 114] }] 9)
      have hX := bx_new wr #[.string { data := #[111, 110, 101] }, .string { data := #[116, 119, 111] }, .string { data := #[116, 104, 114, 101, 101] }, .string { data := #[102, 111, 117, 114] }] 9
      rw [hu] at bu hX
      have hRu := hR.below bu
      have hOu := hO.out.below bu
      have hgu := grown_below' hg bu
      have hcell : u.cell? ⟨wr.heap.size, 0 + q.length, none⟩ = some (.string (nameOf q.length)) := by
        rw [Nat.zero_add]
        have cs : q.length = 0 ∨ q.length = 1 ∨ q.length = 2 ∨ q.length = 3 := by omega
        rcases cs with e | e | e | e <;> rw [e] <;> exact hX.cell _ rfl
      have hcell' : u.cell? ⟨wr.heap.size, q.length, none⟩ = some (.string (nameOf q.length)) := by rw [Nat.zero_add] at hcell; exact hcell
      obtain ⟨N, hN⟩ : ∃ N, nameOf q.length = N := ⟨_, rfl⟩
      have hNs : Hid (N.size ≤ 7) := by rw [← hN]; exact nameOf_size _
      rw [hN] at hcell hcell'
      clear hX hN
      obtain ⟨n, hn⟩ : ∃ n, q.length = n := ⟨_, rfl⟩
      have Hn : Hid (q.length = n) := hn
      rw [hn] at hcell hcell' hql hq2 hvc hOu
      rw [hn]
      have hqm' : Hid (n + m ≤ 4) := by rw [← hn]; exact hqm
      clear hn hqm
      go_wp2_with fail
      refine (l8Rule_any R pr u hRu hpr N).mono ?_
      rintro e w6 ⟨x, xa, xc, S, p3, rfl, hnm, hR6, hq0, hq1, hg6, hO6, hnd6, hS6, hl3, hz6, _⟩
      subst hnm
      have hu6 := hg6.4
      have hsz := bu.size
      have hOw := hOu.grown hg6 hRl
      obtain ⟨w7, hw7, v8, w8, hrun, O8, hs7, g8, _⟩ := rul_run ⟨x, xa, xc⟩ hOw (by rw [Hn.out]; omega) (by omega) (by show x.ks.len ≤ _; unfold maxLen; omega) (by show x.nm.size ≤ _; have := hNs.out; unfold maxLen; omega) (T := S) hO6 (fun b hb => ⟨by have := (hS6 b hb).1; omega, (hS6 b hb).2, fun e => by have := hOu.row.lt b e.symm; have := (hS6 b hb).1; omega⟩)
      simp only at hw7
      have hRw7 : Rd w7 R p3 := hR6.below (by rw [← hw7]; exact xBelow_new _ _)
      have hown := hOw.row
      unfold ruV ruC
      go_wp2_with (at_builtin; refine xwpList_append_run rfl (.tmp 12) (.tmp 20) 23 rfl _ _ rfl rfl hrun ?_)
      have hn := Hn.out
      have O8 : Hid (RuOwn w8 w.heap.size v8 (q ++ [(⟨x, xa, xc⟩ : RH)])) := O8
      refine ⟨⟨M, q ++ [(⟨x, xa, xc⟩ : RH)], p3, rfl, by rw [List.length_append, hn]; have := hqm'.out; have := HM.out; simp; omega, ?_, by omega, ?_, ?_, O8, ?_⟩, by have := HM.out; simp [intOf]; omega⟩
      · refine hRw7.lower (B := w.heap.size) (by omega) ⟨g8.1, g8.2, g8.3, g8.4, fun b hb => g8.5 b (by omega) (fun e => by have := hOw.row.lt b e.symm; omega)⟩
      · show p3 ≤ p + 1 + 1300 * (q ++ [_]).length
        rw [List.length_append, hn]
        have := hp1.out
        rw [hn] at this
        simp
        omega
      · refine xd_grown (grownBy_trans (grownBy_trans hgu hg6) (xd_below_by (by rw [← hw7]; exact xBelow_new _ _) _)) g8 (fun b hb => (hOw.row.lt b hb).1)
      · intro y hy
        rcases List.mem_append.1 hy with hy | hy
        · exact hB.out y hy
        · obtain rfl : y = ⟨x, xa, xc⟩ := by simpa using hy
          exact ⟨by show x.ks.size ≤ 2000; omega, hNs.out⟩
    · have hm' : ¬ (0 : Int) < (m : Int) := by omega
      go_wp2
      go_ret
      exact ⟨_, q, pr, rfl, hR, hp0, by have := hp1.out; omega, hg, hO.out, by omega, hB.out⟩
end Go.Proofs.YtohijenlcfkliaaDoor
