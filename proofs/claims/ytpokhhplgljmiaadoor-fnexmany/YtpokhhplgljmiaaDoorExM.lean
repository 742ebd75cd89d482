/- The list of all parts: what the program's exList answers. -/
import Derived.Test.YtpokhhplgljmiaaDoorExM2
namespace Go.Proofs.YtpokhhplgljmiaaDoor
open Go.ChangeShapes Go.WideShapes Go.ChangeAt Go.RowKit
set_option linter.unusedVariables false
attribute [local go_sem] Oper.semAt_some

set_option maxRecDepth 4000 in
set_option maxHeartbeats 20000000 in
theorem exList_any (kd sy n : Int) (a : Option Addr) (cap : Nat) (F : Fo) (w : World) (t : TypeId) (v : Value) (hE : ErrAt w t v) (hF : Slc w a F) :
    Calls Tryd.prog 18 #[.agg #[.int .i64 kd, .int .i64 sy, .int .i64 n, .slice a F.len cap]] w fun e w' => Below w.heap.size w w' ∧
      ((okP 5 0 kd sy n F = true ∧ ∃ q u, e = .returned u ∧ q.map Hd.tri = (kd, sy, n) :: preF F ∧ w'.ownsRow w.heap.size 25 4 u q.length (hdCells q)) ∨
       (okP 5 0 kd sy n F = false ∧ e = .returned (.slice none 0 0))) := by
  have hmf : ∀ (fn : Fn) (first cap : Array Value) (w : World), (Instr.makeFunc fn first cap).run Tryd.prog w = .ok (.func fn first cap) w := fun _ _ _ _ => rfl
  refine (callsIn_wide (n := 9)).1 (callsIn_of_wp_marks Tryd.func18 rfl trivial ?_ rfl)
  refine wpIn_wide.2 ?_
  simp only [Tryd.ntmps18, List.size_toArray, List.length_cons, List.length_nil, Nat.reduceAdd, Nat.reduceSub, Array.replicate_succ, Array.replicate_zero, List.push_toArray, List.append_toArray, List.nil_append, List.cons_append]
  go_wp2_with fail
  refine (exParts_any kd sy n _ _).mono ?_
  rintro e w1 ⟨rfl, rfl⟩
  go_wp2_with fail
  obtain ⟨W0, hW0⟩ : ∃ W0, (((w.alloc (.cells #[.int .i64 kd, .int .i64 sy, .int .i64 n, .slice a F.len cap] 25)).alloc (.cells #[.slice none 0 0] 23)).alloc (.cells #[.int .i64 kd, .int .i64 sy, .int .i64 n, .slice a F.len cap] 25)) = W0 := ⟨_, rfl⟩
  rw [hW0]
  have hs0 : W0.heap.size = w.heap.size + 3 := by rw [← hW0]; simp
  have hb0 : Below w.heap.size w W0 := by rw [← hW0]; exact (bel2 _ _ _).alloc (by simp; omega) _
  have hl0 : Boxed W0 (w.heap.size + 1) 23 (.slice none 0 0) := by
    rw [← hW0]
    have := Boxed.new (w.alloc (.cells #[.int .i64 kd, .int .i64 sy, .int .i64 n, .slice a F.len cap] 25)) 23 (.slice none 0 0)
    rw [World.size_alloc] at this
    exact this.alloc _
  have hx0 : W0.heap[w.heap.size + 1 + 1]? = some (.cells #[.int .i64 kd, .int .i64 sy, .int .i64 n, .slice a F.len cap] 25 (0, 0)) := by
    rw [← hW0]
    have := heap_alloc_new ((w.alloc (.cells #[.int .i64 kd, .int .i64 sy, .int .i64 n, .slice a F.len cap] 25)).alloc (.cells #[.slice none 0 0] 23)) (.cells #[.int .i64 kd, .int .i64 sy, .int .i64 n, .slice a F.len cap] 25)
    rwa [World.size_alloc, World.size_alloc] at this
  refine wpIn_wide.1 (range_parts hE hF hb0 (Bl := w.heap.size + 1) (by omega) rfl rfl hx0 hl0 (fun x Bp => { tmps := #[.agg #[.int .i64 kd, .int .i64 sy, .int .i64 n, .slice a F.len cap], .pointer (some ⟨w.heap.size, 0, none⟩), .pointer (some ⟨w.heap.size + 1, 0, none⟩), .pointer (some ⟨Bp, 0, none⟩),
      .func (.func 31) #[] #[.pointer (some ⟨w.heap.size + 1, 0, none⟩)], .agg #[.int .i64 kd, .int .i64 sy, .int .i64 n, .slice a F.len cap], .func (.func 40) #[] #[.pointer (some ⟨w.heap.size + 1 + 1, 0, none⟩)], x.val, undef, undef, undef, undef, undef, undef, undef], defers := [] })
    ?assign ?body ?done ?pan)
  case assign =>
    intro l x W K hK
    dsimp only [Hd.val] at hK ⊢
    gi_wp2
    exact hK
  case body =>
    intro l r pre x Bp W hL hbW hlen hsz hrp hbp
    dsimp only [Hd.val]
    obtain ⟨u, hu, hown, rfl⟩ := hL
    have c0 := hu.cell
    have p0 := cell_at hbp 0
    have p1 := cell_at hbp 1
    have p2 := cell_at hbp 2
    have p3 := cell_at hbp 3
    simp at p0 p1 p2 p3
    have hmix : Tryd.prog.follows .mixedOrders = true := by kernel_rfl
    have hlen' : ∀ w, Sem.run Tryd.prog (Builtin.len_ #[23] 3 #[u]) w = .ok (.int .i64 pre.length) w := by
      intro w
      rcases hown.2 with ⟨rfl, h0⟩ | ⟨g, cap, cur, rfl, _⟩
      · rw [h0]; simp [go_sem]
      · simp [go_sem]
    obtain ⟨i0, hi, hz0, hz1, hz2⟩ := info_ex_parts
    obtain ⟨W2, hW2⟩ : ∃ W2, W.drew.alloc (.cells #[.int .i64 0, .int .i64 0, .int .i64 0, .slice none 0 0] 25) = W2 := ⟨_, rfl⟩
    have hs2 : W2.heap.size = W.heap.size + 1 := by rw [← hW2]; simp
    have hbe2 : Below W.heap.size W W2 := by rw [← hW2]; exact ((Below.refl _ _).drew).alloc (Nat.le_refl _) _
    have hlp : Bp < W.heap.size := (Array.getElem?_eq_some_iff.1 hbp).1
    have f0 := (hbe2.cell (p := ⟨w.heap.size + 1, 0, none⟩) hu.lt).trans c0
    have f1 := (hbe2.cell (p := ⟨Bp, 0, none⟩) hlp).trans p0
    have f2 := (hbe2.cell (p := ⟨Bp, 1, none⟩) hlp).trans p1
    have f3 := (hbe2.cell (p := ⟨Bp, 2, none⟩) hlp).trans p2
    have f4 := (hbe2.cell (p := ⟨Bp, 3, none⟩) hlp).trans p3
    have hown2 : W2.ownsRow (W0.heap.size + 3) 25 4 u pre.length (hdCells pre) := by
      exact owns_below hown hbe2
    obtain ⟨v', w', hrun, r1, r2, r3⟩ := append_where (P := Tryd.prog) W2 (W0.heap.size + 3) 23 23 25 i0 (.agg #[.int .i64 0, .int .i64 0, .int .i64 0, .slice none 0 0]) 4 48 Tryd.underlying23 hi hz0 hz1 hz2 rfl (by decide) u pre.length (hdCells pre) hown2 ⟨W.heap.size, 0, none⟩ 1 1 [.int .i64 0, .int .i64 0, .int .i64 0, .slice none 0 0] rfl
      (by
        intro j x hj
        have hz : W2.heap[W.heap.size]? = some (.cells #[.int .i64 0, .int .i64 0, .int .i64 0, .slice none 0 0] 25 (0, 0)) := by rw [← hW2]; exact heap_alloc_new W.drew _
        rw [add_plain, cell_at hz]
        simpa using hj)
      (by intro x hx; simp at hx; rcases hx with rfl | rfl <;> rfl) (by unfold maxLen; omega) (by omega) (by omega)
    simp [go_sem] at hrun
    obtain ⟨g', cap', rfl⟩ := ownsRow_succ r1
    have hrow := hown.lt
    have hu2 : Boxed w' (w.heap.size + 1) 23 u := (show Boxed W2 (w.heap.size + 1) 23 u from (hbe2.block _ hu.lt).trans hu).kept r2 (fun e => by have := (hrow _ e.symm).1; omega)
    have d0 := hu2.cell
    have d1 := hu2.frozen
    have hgB := (r1.lt g' rfl).1
    have hne : ¬ g' = w.heap.size + 1 := by omega
    have hne' : ¬ w.heap.size + 1 = g' := by omega
    obtain ⟨cur, hcur, hcap, hcs, htk⟩ : ∃ cur, w'.heap[g']? = some (.cells cur 25 (0, 0)) ∧ pre.length + 1 ≤ cap' ∧ cur.size = cap' * 4 ∧ cur.toList.take ((pre.length + 1) * 4) = hdCells pre ++ [.int .i64 0, .int .i64 0, .int .i64 0, .slice none 0 0] := by
      rcases r1.2 with ⟨h, _⟩ | ⟨g2, cap2, cur, h, _, h1, h2, _, h3, h4⟩
      · simp at h
      · simp only [Value.slice.injEq, Option.some.injEq, Addr.mk.injEq, and_true, true_and] at h
        obtain ⟨rfl, rfl⟩ := h
        exact ⟨cur, h1, h2, h3, h4⟩
    have hpl : (hdCells pre).length = pre.length * 4 := hown.1
    have hq : ∀ j, j < 4 → w'.cell? ⟨g', pre.length * 4 + j, none⟩ = ([.int .i64 0, .int .i64 0, .int .i64 0, .slice none 0 0] : List Value)[j]? := by
      intro j hj
      rw [cell_at hcur]
      have := congrArg (fun l => l[pre.length * 4 + j]?) htk
      simp only [List.getElem?_take] at this
      rw [if_pos (by omega), List.getElem?_append_right (by omega), hpl, Nat.add_sub_cancel_left] at this
      rw [← this]; simp
    have q0 := hq 0 (by omega)
    have q1 := hq 1 (by omega)
    have q2 := hq 2 (by omega)
    have q3 := hq 3 (by omega)
    simp at q0 q1 q2 q3
    have qf : ∀ o, w'.frozen? ⟨g', o, none⟩ = false := by intro o; simp [World.frozen?, hcur]
    have hfin := fun A' h => round_end (A' := A') (x := x) (w := w) (Bl := w.heap.size + 1) (cap := cap') (by omega) (by omega) hbW hown hbe2 r2 (r3 g' rfl) h
    have hf1 := hfin _ (wrote_one (.int .i64 x.kd) (.int .i64 x.sy) (.int .i64 x.n) (.slice x.a x.len x.cap) hu2 hne r1 rfl)
    have hf2 := hfin _ (wrote_two (.int .i64 x.kd) (.int .i64 x.sy) (.int .i64 x.n) (.slice x.a x.len x.cap) hu2 hne r1 rfl)
    have hf1' : Hid _ := hf1
    have hf2' : Hid _ := hf2
    clear hf1 hf2 hfin hcur hcap hcs htk hpl hq hu hrow r1 r2 r3 hbp hown hown2 hs2 hlp hbW hbe2
    gi_wp2
    gi_region_with_o (fail)
    all_goals
      refine ⟨rfl, ?_⟩
      first
      | with_reducible exact hf1'.out
      | with_reducible exact hf2'.out
  case done =>
    intro q r W ho hq hL hbW hD
    obtain ⟨u, hu, hown, _⟩ := hL
    obtain ⟨g, capq, rfl⟩ : ∃ g c, u = .slice (some ⟨g, 0, none⟩) q.length c := by
      rcases hown.2 with ⟨_, h0⟩ | ⟨g, c, cur, h, _⟩
      · have := congrArg List.length hq
        simp [h0] at this
      · exact ⟨g, c, h⟩
    have c0 := hu.cell
    have c1 := hu.frozen
    obtain ⟨W3, hW3⟩ : ∃ W3, W.setCell ⟨w.heap.size + 1, 0, none⟩ (.slice (some ⟨g, 0, none⟩) q.length capq) = W3 := ⟨_, rfl⟩
    have hg3 : W.grownBy W3 (some (w.heap.size + 1)) := by rw [← hW3]; exact grownBy_setCell' _ _ _
    have hu3 : Boxed W3 (w.heap.size + 1) 23 (.slice (some ⟨g, 0, none⟩) q.length capq) := by rw [← hW3]; exact hu.set _
    have hown3 := hown.kept hg3 (.inr fun e => by have := (hown.lt _ e).1; omega)
    have hD3 : W3.heap[W0.heap.size]? = some (.deferred (some [])) := by rw [← hW3, Below.heap_setCell _ _ _ _ (by simp; omega)]; exact hD
    have hb3 : Below w.heap.size w W3 := by rw [← hW3]; exact hbW.setCell (by simp) _
    have hu4 : Boxed (W3.putObj W0.heap.size (.deferred none)) (w.heap.size + 1) 23 (.slice (some ⟨g, 0, none⟩) q.length capq) := (World.putObj_heap_other (by omega)).trans hu3
    have c4 := hu4.cell
    have hb4 : Below w.heap.size w (W3.putObj W0.heap.size (.deferred none)) := hb3.grown (grownBy_putObj' _ _ _) hb3.size (fun k hk => by cases hk; omega)
    have hown4 := ownsRow_putObj hown3 (.deferred none) hD3 rfl
    go_wp2
    refine ⟨by simp, .inl ⟨_, _, rfl, run_takeDeferred hD3, ?_⟩⟩
    refine ⟨by simp, .inr ⟨fun h => (by cases h), _, _, 31, #[.pointer (some ⟨w.heap.size + 1, 0, none⟩)], rfl, by simp [invoke, go_sem], fun _ _ => trivial, ?_⟩⟩
    refine (exListD_calm (w.heap.size + 1) _).mono ?_
    rintro e u' w' ⟨rfl, ⟨y, rfl⟩, rfl⟩
    refine ⟨_, by simp [results, Tryd.results18, go_sem, c4], hb4, .inl ⟨ho, q, _, rfl, hq, hown4.mono (by omega)⟩⟩
  case pan =>
    intro q r W ho hL hbW hD
    obtain ⟨u, hu, hown, _⟩ := hL
    have hu4 : Boxed (W.putObj W0.heap.size (.deferred none)) (w.heap.size + 1) 23 u := (World.putObj_heap_other (by omega)).trans hu
    have hb4 : Below w.heap.size w (W.putObj W0.heap.size (.deferred none)) := hbW.grown (grownBy_putObj' _ _ _) hbW.size (fun k hk => by cases hk; omega)
    have c5 := (hu4.set (.slice none 0 0)).cell
    refine ⟨by simp, .inl ⟨_, _, rfl, run_takeDeferred hD, ?_⟩⟩
    refine ⟨by simp, .inr ⟨fun h => (by cases h), _, _, 31, #[.pointer (some ⟨w.heap.size + 1, 0, none⟩)], rfl, by simp [invoke, go_sem], fun _ _ => trivial, ?_⟩⟩
    refine (exListD_panic (w.heap.size + 1) t v u _ hu4).mono ?_
    rintro e u' w' ⟨rfl, ⟨y, rfl⟩, rfl⟩
    refine ⟨.slice none 0 0, by simp [results, Tryd.results18, go_sem, c5], hb4.setCell (by simp) _, .inr ⟨ho, rfl⟩⟩
end Go.Proofs.YtpokhhplgljmiaaDoor
