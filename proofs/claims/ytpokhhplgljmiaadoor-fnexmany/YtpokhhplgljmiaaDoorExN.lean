/- 'for part := range exParts(x) { .. }' where the body puts each part behind a list in a box. -/
import Derived.Test.YtpokhhplgljmiaaDoorExL
namespace Go.Proofs.YtpokhhplgljmiaaDoor
open Go.ChangeShapes Go.WideShapes Go.ChangeAt Go.RowKit
set_option linter.unusedVariables false

/-- The cells of a list of parts. -/
def hdCells (l : List Hd) : List Value := l.flatMap fun x => [.int .i64 x.kd, .int .i64 x.sy, .int .i64 x.n, .slice x.a x.len x.cap]
theorem hdCells_snoc (l : List Hd) (x : Hd) : hdCells (l ++ [x]) = hdCells l ++ [.int .i64 x.kd, .int .i64 x.sy, .int .i64 x.n, .slice x.a x.len x.cap] := by simp [hdCells]

/-- The list in the box Bl: its row, if it has one, is block r, from B on. -/
def Lst (Bl B : Nat) (r : Option Nat) (pre : List Hd) (A : World) : Prop := ∃ u, Boxed A Bl 23 u ∧ A.ownsRow B 25 4 u pre.length (hdCells pre) ∧ r = u.ownBlock

theorem Lst.below {Bl B : Nat} {r : Option Nat} {pre : List Hd} {A A' : World} (h : Lst Bl B r pre A) (hb : Below A.heap.size A A') : Lst Bl B r pre A' := by
  obtain ⟨u, h1, h2, h3⟩ := h
  exact ⟨u, (hb.block Bl h1.lt).trans h1, owns_below h2 hb, h3⟩
theorem Lst.lt {Bl B : Nat} {r : Option Nat} {pre : List Hd} {A : World} (h : Lst Bl B r pre A) : ∀ k, r = some k → B ≤ k ∧ k < A.heap.size := by
  obtain ⟨u, h1, h2, h3⟩ := h
  intro k hk
  subst h3
  exact h2.lt k hk
theorem Lst.turn {Bl B k : Nat} {r : Option Nat} {pre : List Hd} {A A' : World} (h : Lst Bl B r pre A) (hg : A.grownBy A' (some k)) (h1 : k ≠ Bl) (h2 : k < B) : Lst Bl B r pre A' := by
  have hl := h.lt
  obtain ⟨u, g1, g2, g3⟩ := h
  refine ⟨u, g1.kept hg (fun e => h1 (by cases e; rfl)), g2.kept hg ?_, g3⟩
  by_cases hu : u.ownBlock = none
  · exact .inl hu
  · refine .inr fun e => ?_
    have := (hl k (by rw [g3, e])).1
    omega

/-- Where no depth is asked the figures are all one. -/
theorem round_deep {m m' : Nat} {P : Program} {l : Nat} {f : FuncId} {tmps : Array Value} {assign body : Code} {w : World} {R : Ending → World → Prop} (h : RoundIn Fence.wide m P l f tmps assign body w R) : RoundIn Fence.wide m' P l f tmps assign body w R :=
  ⟨h.1, fun c cs _ => h.2 c cs (room_wide _)⟩

set_option maxRecDepth 4000 in
set_option maxHeartbeats 1000000 in
theorem range_parts {g : Operand} {ps : Array Tmp} {assign body : Code} {Q : Exit → Act → World → Prop} {a : Act} {w w0 : World} {Bx Bl : Nat} {t : TypeId} {v : Value} {kd sy n : Int} {p : Option Addr} {cap : Nat} {F : Fo}
    (hE : ErrAt w0 t v) (hF : Slc w0 p F) (hb : Below w0.heap.size w0 w) (hBl : w0.heap.size ≤ Bl) (hg : a.eval g = .func (.func 40) #[] #[.pointer (some ⟨Bx, 0, none⟩)]) (hps : ps.size = 1)
    (hx : w.heap[Bx]? = some (.cells #[.int .i64 kd, .int .i64 sy, .int .i64 n, .slice p F.len cap] 25 (0, 0))) (hl : Boxed w Bl 23 (.slice none 0 0))
    (a₁ : Hd → Nat → Act)
    (hassign : ∀ (l : Nat) (x : Hd) (W : World) (K : Act → World → Prop), K (a₁ x W.heap.size) (W.alloc (.cells #[.int .i64 x.kd, .int .i64 x.sy, .int .i64 x.n, .slice x.a x.len x.cap] 25)) →
      assign.wpIn (Fence.wide.inRound l) 7 Tryd.prog (Exit.then K (fun _ _ _ => False)) { tmps := (ps.zip #[x.val]).foldl (fun t (p, v) => t.setIfInBounds p v) a.tmps, defers := [] } W)
    (hbody : ∀ (l : Nat) (r : Option Nat) (pre : List Hd) (x : Hd) (Bp : Nat) (W : World), Lst Bl (w.heap.size + 3) r pre W → Below w0.heap.size w0 W → pre.length < 12 → w.heap.size + 3 ≤ W.heap.size → r ≠ some Bp →
      W.heap[Bp]? = some (.cells #[.int .i64 x.kd, .int .i64 x.sy, .int .i64 x.n, .slice x.a x.len x.cap] 25 (0, 0)) →
      body.wpIn (Fence.wide.inRound l) 7 Tryd.prog (fun e a' W' => e = .normal ∧ (∃ r', Lst Bl (w.heap.size + 3) r' (pre ++ [x]) W') ∧ Below w0.heap.size w0 W' ∧ W.heap.size ≤ W'.heap.size ∧ ∀ b, b ≠ Bl → b < W.heap.size → r ≠ some b → W'.heap[b]? = W.heap[b]?) (a₁ x Bp) W)
    (hdone : ∀ (q : List Hd) (r : Option Nat) (W : World), okP 5 0 kd sy n F = true → q.map Hd.tri = (kd, sy, n) :: preF F → Lst Bl (w.heap.size + 3) r q W → Below w0.heap.size w0 W → W.heap[w.heap.size]? = some (.deferred (some [])) →
      Q .normal { a with defers := { target := .collected w.heap.size, args := #[] } :: a.defers } W)
    (hpan : ∀ (q : List Hd) (r : Option Nat) (W : World), okP 5 0 kd sy n F = false → Lst Bl (w.heap.size + 3) r q W → Below w0.heap.size w0 W → W.heap[w.heap.size]? = some (.deferred (some [])) →
      Q (.panic [{ v := .iface t v, recovered := false }]) { a with defers := { target := .collected w.heap.size, args := #[] } :: a.defers } W) :
    (Code.rangeFunc g ps assign body).wpIn Fence.wide 9 Tryd.prog Q a w := by
  have hBll := hl.lt
  refine wpIn_rangeFunc ?_
  intro fn hfn
  obtain ⟨rec, hrec⟩ : ∃ rec : LoopState → Option Code → Loop, rec = fun st pe => { state := st, pending := pe, fn, tmps := a.tmps, params := ps, assign, body, defers := w.heap.size } := ⟨_, rfl⟩
  obtain ⟨W1, hW1⟩ : ∃ W1, (w.alloc (.deferred (some []))).alloc (.loop (rec .ready none)) = W1 := ⟨_, rfl⟩
  have hs1 : W1.heap.size = w.heap.size + 2 := by rw [← hW1]; simp
  have hb1 : Below w.heap.size w W1 := by rw [← hW1]; exact bel2 _ _ _
  have hL1 : W1.heap[w.heap.size + 1]? = some (.loop (rec .ready none)) := by
    rw [← hW1]; have := World.alloc_heap_new (w.alloc (.deferred (some []))) (.loop (rec .ready none)); rwa [World.size_alloc] at this
  have hK1 : W1.heap[w.heap.size]? = some (.deferred (some [])) := by
    rw [← hW1]; exact (Below.heap_alloc _ _ _ (by simp)).trans (World.alloc_heap_new w _)
  have hbw1 : Below w0.heap.size w0 W1 := hb.trans (hb1.mono hb.size)
  have hx1 : W1.heap[Bx]? = _ := (hb1.block Bx (Array.getElem?_eq_some_iff.1 hx).1).trans hx
  have hLst1 : Lst Bl (w.heap.size + 3) none [] W1 := ⟨_, (hb1.block Bl hl.lt).trans hl, World.ownsRow_nil _ _ _ _, rfl⟩
  refine ⟨w.heap.size + 1, [{ target := .collected w.heap.size, args := #[] }], W1, { target := .fn (.func 40) #[.pointer (some ⟨Bx, 0, none⟩)], args := #[.func (.yield (w.heap.size + 1)) #[] #[]] }, W1, 40,
    #[.func (.yield (w.heap.size + 1)) #[] #[]] ++ #[.pointer (some ⟨Bx, 0, none⟩)], W1, ?_, ?_, ?_, ?_, fun h => (by cases h), ?_⟩
  · rw [← hW1, hrec]; exact run_enterLoop_outer _ _ _ _ _
  · simp only [resolve, hg]
    simp [go_sem]
  · exact fun _ _ => trivial
  · have eg : ∀ args w, (callFunc 40 args).run Tryd.prog w = .ok (.enter 40 args) w := enters_of Tryd.func40 (by kernel_rfl) rfl
    simp [invoke, go_sem, eg]
  · refine callsIn_wide.2 ((exIter_any w0 (w.heap.size + 1) Bx t v W1 (fun r pre A => Lst Bl (w.heap.size + 3) r pre A ∧ A.heap[w.heap.size + 1]? = some (.loop (rec .ready none)) ∧ A.heap[w.heap.size]? = some (.deferred (some [])))
      hE hbw1 (fun r => ⟨?_, ?_⟩) ?_ ?_ kd sy n p cap F hF ⟨_, hx1⟩ ?_).mono ?_)
    · rintro pre A A' ⟨h1, h2, h3⟩ hbe
      exact ⟨h1.below hbe, (hbe.block _ (Array.getElem?_eq_some_iff.1 h2).1).trans h2, (hbe.block _ (Array.getElem?_eq_some_iff.1 h3).1).trans h3⟩
    · rintro pre A u ⟨h1, h2, h3⟩
      refine ⟨h1.turn (k := W1.heap.size) ⟨rfl, rfl, rfl, (KeepsWalks.setCell _ _ _).size, fun k _ hk => Below.heap_setCell _ _ _ k (fun e => hk (by rw [e]))⟩ (by omega) (by omega), ?_, ?_⟩
      · rw [Below.heap_setCell _ _ _ _ (by simp; omega)]; exact h2
      · rw [Below.heap_setCell _ _ _ _ (by simp; omega)]; exact h3
    · rintro r pre A ⟨h1, h2, h3⟩
      exact ⟨fun e => by have := (h1.lt _ e).1; omega, fun k e => (h1.lt k e).2⟩
    · -- one round
      rintro k r pre x A ⟨h1, h2, h3⟩ hbA hlen hsz
      have hA3 : w.heap.size + 3 ≤ A.heap.size := by omega
      have hy := run_yield (P := Tryd.prog) (args := #[x.val]) h2 (by rw [hrec]; simp [hps])
      rw [hrec] at hy
      refine ⟨fn, _, assign, body, hy, ?_⟩
      clear hy
      obtain ⟨A1, hA1⟩ : ∃ A1, A.alloc (.cells #[.int .i64 x.kd, .int .i64 x.sy, .int .i64 x.n, .slice x.a x.len x.cap] 25) = A1 := ⟨_, rfl⟩
      have hbe1 : Below A.heap.size A A1 := by rw [← hA1]; exact bel1 _ _
      have hbox : A1.heap[A.heap.size]? = some (.cells #[.int .i64 x.kd, .int .i64 x.sy, .int .i64 x.n, .slice x.a x.len x.cap] 25 (0, 0)) := by rw [← hA1]; exact heap_alloc_new A _
      have hsA1 : A1.heap.size = A.heap.size + 1 := by rw [← hA1]; simp
      have hr2 : A1.heap[w.heap.size + 1]? = some (.loop (rec .ready none)) := (hbe1.block _ (by omega)).trans h2
      have hd2 : A1.heap[w.heap.size]? = some (.deferred (some [])) := (hbe1.block _ (by omega)).trans h3
      have hl2 := h1.below hbe1
      refine round_deep (m := 7) (roundIn_of_wpIn trivial (hassign _ x A _ ?_))
      rw [hA1]
      refine ⟨_, run_beginRound hr2 (by rw [hrec]), ?_⟩
      obtain ⟨A2, hA2⟩ : ∃ A2, A1.putObj (w.heap.size + 1) (.loop { rec .ready none with state := .busy }) = A2 := ⟨_, rfl⟩
      have hg2 : A1.grownBy A2 (some (w.heap.size + 1)) := by rw [← hA2]; exact grownBy_putObj' _ _ _
      have hs2 : A2.heap.size = A1.heap.size := by rw [← hA2]; simp
      have hr3 : A2.heap[w.heap.size + 1]? = some (.loop { rec .ready none with state := .busy }) := by rw [← hA2]; exact World.putObj_heap_same (by omega)
      have ho2 : ∀ b, b ≠ w.heap.size + 1 → A2.heap[b]? = A1.heap[b]? := fun b h => by rw [← hA2]; exact World.putObj_heap_other h
      have hbA2 : Below w0.heap.size w0 A2 := by
        have hba1 : Below w0.heap.size w0 A1 := hbA.trans (hbe1.mono hbA.size)
        exact hba1.grown hg2 (by have := hbA.size; omega) (fun k hk => by cases hk; have := hb.size; omega)
      rw [hA2]
      refine wpIn_mono (hbody _ r pre x A.heap.size A2 (hl2.turn hg2 (by omega) (by omega)) hbA2 hlen (by omega) (fun e => by have := (h1.lt _ e).2; omega) ((ho2 _ (by omega)).trans hbox)) ?_
      rintro e a' A3 ⟨rfl, ⟨r', hl3⟩, hb3, hs3, hk3⟩
      have hr4 : A3.heap[w.heap.size + 1]? = some (.loop { rec .ready none with state := .busy }) := (hk3 _ (by omega) (by omega) (fun e => by have := (h1.lt _ e).1; omega)).trans hr3
      have hd4 : A3.heap[w.heap.size]? = some (.deferred (some [])) := (hk3 _ (by omega) (by omega) (fun e => by have := (h1.lt _ e).1; omega)).trans ((ho2 _ (by omega)).trans hd2)
      refine ⟨_, _, run_endRound none hr4, rfl, ⟨r', hl3.turn (grownBy_putObj' _ _ _) (by omega) (by omega), ?_, ?_⟩, ?_, ?_, ?_⟩
      · rw [World.putObj_heap_same (by omega)]; rw [hrec]; rfl
      · rw [World.putObj_heap_other (by omega)]; exact hd4
      · exact hb3.grown (grownBy_putObj' _ _ _) hb3.size (fun k hk => by cases hk; have := hb.size; omega)
      · rw [World.putObj_size]; omega
      · intro b hb1 hb2 hb3
        rw [World.putObj_heap_other (by omega), hk3 b (by omega) (by omega) hb3, ho2 b (by omega)]
        exact hbe1.block b hb2
    · intro o
      have hbo : Below W1.heap.size W1 (W1.alloc o) := bel1 _ _
      exact ⟨hLst1.below hbo, (hbo.block _ (by omega)).trans hL1, (hbo.block _ (by omega)).trans hK1⟩
    · rintro e A' ⟨hbe, ⟨ho, ⟨u, rfl⟩, q, r', hq, h1, h2, h3⟩ | ⟨ho, rfl, q, r', h1, h2, h3⟩⟩
      · refine ⟨none, _, by have := run_endLoop (P := Tryd.prog) h2 (by rw [hrec]; simp); rw [hrec] at this; exact this, ?_⟩
        exact hdone q r' _ ho hq (h1.turn (grownBy_putObj' _ _ _) (by omega) (by omega)) (hbe.grown (grownBy_putObj' _ _ _) hbe.size (fun k hk => by cases hk; have := hb.size; omega)) ((World.putObj_heap_other (by omega)).trans h3)
      · exact hpan q r' _ ho h1 hbe h3
end Go.Proofs.YtpokhhplgljmiaaDoor
