/- What comes later: the program's list by time. -/
import Derived.Test.YtmomoboedoljfaaPlus2
import Derived.Test.YtmomoboedoljfaaOccPut1
namespace Go.Proofs.Ytmomoboedoljfaa
open Go.ChangeShapes Go.WideShapes Go.ChangeAt Go.RowKit
set_option linter.unusedVariables false
set_option maxRecDepth 4000
/-- An append whose two slices are of two types with one element type. -/
theorem append_types {P : Program} {t u ty e : TypeId} (ht : P.underlying t = some (.slice e)) (hu : P.underlying u = some (.slice e)) (s x : Value) (w : World) :
    (Builtin.append_ #[t, u] ty #[s, x]).run P w = (Builtin.append_ #[t, t] ty #[s, x]).run P w := by
  cases s <;> simp [Builtin.append_, Sem.run_bind, run_underlying ht, run_underlying hu]
theorem wpList_append_run2 {P : Program} {w : World} {ops : Array Oper} {rest : List Oper} {o : Oper} {a : Act} {Q : Exit → Act → World → Prop} (hgd : o.guard = none) (s x : Operand) (t u : TypeId)
    (ho : o.op = .call { callee := .builtin .append, args := #[s, x], argTypes := #[t, u] }) (vs vx : Value) (hs : a.eval s = vs) (hx : a.eval x = vx) {v' : Value} {w' : World}
    (hr : (Builtin.append_ #[t, u] o.type #[vs, vx]).run P w = .ok v' w') (h : wpList P ops Q rest (a.put o.dst v') w') : wpList P ops Q (o :: rest) a w := by
  refine wpList_plain hgd fun _ hK => ?_
  unfold Oper.wp execOp
  simp only [ho, resolve, invoke, builtin, Sem.run_bind, Sem.run_pure, Result.andThen_ok, List.map_toArray, List.map_cons, List.map_nil, hs, hx, hr]
  exact hK _ _ h
/-- One more at the end of a list by time. -/
def EndPost (w : World) (B : Nat) (v : Value) (L : List OC) (x : OC) (e : Ending) (w' : World) : Prop :=
  ∃ v', e = .returned v' ∧ w'.ownsRow B 32 3 v' (L.length + 1) (ocCells L ++ x.v) ∧ w.grownBy w' v.ownBlock ∧ ∀ k, v'.ownBlock = some k → v.ownBlock = some k ∨ w.heap.size ≤ k
set_option maxHeartbeats 1000000 in
theorem insertEnd_any (B : Nat) (av : Option Addr) (cv : Nat) (L : List OC) (x : OC) (vb : Nat) (w : World) (hrow : w.ownsRow B 32 3 (.slice av L.length cv) L.length (ocCells L)) (hL : L.length ≤ 100000) (hB : B ≤ w.heap.size)
    (hvb : w.heap[vb]? = some (.cells #[.int .i64 x.o.fr, .int .i64 x.o.tl, .slice x.a x.o.ids.length x.c] 32 (0, 0))) :
    Calls Try.prog 52 #[.slice av L.length cv, .int .i64 (L.length : Int), .slice (some ⟨vb, 0, none⟩) 1 1] w (EndPost w B (.slice av L.length cv) L x) := by
  obtain ⟨i0, hi, hz0, hz1, hz2⟩ := info_occ_parts
  have hvc := vb_cells hvb
  obtain ⟨v', w', hr, r1, r2, r3⟩ := oAppend_where (P := Try.prog) w B 57 57 32 i0 (.agg #[.int .i64 0, .int .i64 0, .slice none 0 0]) 3 40 Try.underlying57 hi hz0 hz1 hz2 rfl (by decide) (.slice av L.length cv) L.length (ocCells L) hrow ⟨vb, 0, none⟩ 1 1 x.v rfl hvc (ocv_one x) (by unfold maxLen; omega) (by omega) hB
  rw [← append_types Try.underlying57 Try.underlying23] at hr
  obtain ⟨n, hn⟩ : ∃ n, L.length = n := ⟨_, rfl⟩
  have hcv : n ≤ cv := by
    rcases hrow.2 with ⟨e, hn0⟩ | ⟨g, cap2, cur, e, _, _, hnc, _⟩
    · omega
    · cases e; omega
  have hfin : EndPost w B (.slice av L.length cv) L x (.returned v') w' := ⟨v', rfl, r1, r2, r3⟩
  have Hfin : Hid (EndPost w B (.slice av L.length cv) L x (.returned v') w') := hfin
  have Hr : Hid _ := hr
  have Hn : Hid (L.length = n) := hn
  rw [hn] at hL Hr ⊢
  clear hr hrow r1 r2 r3 hfin hvc hvb hn
  have hn0 : (0 : Int) ≤ (n : Int) := by omega
  by_cases hc : cv = n
  all_goals (
    go_enter Try.func52, Try.ntmps52
    go_wp2_with (at_builtin; refine wpList_append_run2 rfl _ _ 57 23 rfl _ _ rfl rfl Hr.out ?_)
    go_ret
    rw [← Hn.out]
    exact Hfin.out)
theorem place_end {o : Occ} {l : List Occ} (h : ∀ y ∈ l, ocmp y o < 0) : placeF o l = l.length ∧ sameAt o l = false := by
  have hle := placeF_le o l
  have hn : ¬ placeF o l < l.length := fun hlt => by
    have h1 := (oLess_not _ _).1 (placeF_stop o l hlt)
    exact h1 (h _ (List.getElem_mem hlt))
  exact ⟨by omega, sameAt_out hn⟩
/-- One is put behind all others. -/
def LatePost (w : World) (P B : Nat) (av : Option Addr) (cv : Nat) (L : List OC) (x : OC) (w' : World) : Prop :=
  ∃ (a' : Option Addr) (c' : Nat), w'.heap[P]? = some (.cells #[.slice a' (L.length + 1) c'] 57 (0, 0)) ∧ w'.ownsRow B 32 3 (.slice a' (L.length + 1) c') (L.length + 1) (ocCells (L ++ [x])) ∧
    w'.os = w.os ∧ w'.tape = w.tape ∧ w'.output = w.output ∧ w.heap.size ≤ w'.heap.size ∧ (∀ i, i < w.heap.size → i ≠ P → (Value.slice av L.length cv).ownBlock ≠ some i → w'.heap[i]? = w.heap[i]?) ∧
    ∀ k, (Value.slice a' (L.length + 1) c').ownBlock = some k → (Value.slice av L.length cv).ownBlock = some k ∨ w.heap.size ≤ k
set_option maxHeartbeats 2000000 in
theorem putLate_any (P B : Nat) (av : Option Addr) (cv : Nat) (L : List OC) (x : OC) (w : World) (hP : w.heap[P]? = some (.cells #[.slice av L.length cv] 57 (0, 0)))
    (hrow : w.ownsRow B 32 3 (.slice av L.length cv) L.length (ocCells L)) (h1 : ∀ y ∈ L, Ints w y.a y.o.ids) (hasc : AscO (L.map (·.o))) (hi : Ints w x.a x.o.ids) (hend : ∀ y ∈ L.map (·.o), ocmp y x.o < 0)
    (hL : L.length ≤ 1000) (hPB : P < B) (hB : B ≤ w.heap.size) :
    Calls Try.prog 33 #[.pointer (some ⟨P, 0, none⟩), .agg #[.int .i64 x.o.fr, .int .i64 x.o.tl, .slice x.a x.o.ids.length x.c]] w fun e w' => e = .returned (.tuple #[]) ∧ LatePost w P B av cv L x w' := by
  obtain ⟨e1, e2⟩ := place_end hend
  have hPl : P < w.heap.size := by omega
  have hal := oBelow_new w (.cells #[.int .i64 x.o.fr, .int .i64 x.o.tl, .slice x.a x.o.ids.length x.c] 32)
  have hC0 : (w.alloc (.cells #[.int .i64 x.o.fr, .int .i64 x.o.tl, .slice x.a x.o.ids.length x.c] 32)).heap[w.heap.size]? = some (.cells #[.int .i64 x.o.fr, .int .i64 x.o.tl, .slice x.a x.o.ids.length x.c] 32 (0, 0)) := heap_alloc_new w _
  obtain ⟨w0, hw0⟩ : ∃ w0, w.alloc (.cells #[.int .i64 x.o.fr, .int .i64 x.o.tl, .slice x.a x.o.ids.length x.c] 32) = w0 := ⟨_, rfl⟩
  rw [hw0] at hal hC0
  obtain ⟨C, hC⟩ : ∃ C, w.heap.size = C := ⟨_, rfl⟩
  rw [hC] at hC0
  have hPC : ¬ P = C := by omega
  have hCP : ¬ C = P := by omega
  have hP0 := (hal.block P hPl).trans hP
  have p0 := oCell hP0 0
  simp at p0
  have x0 := oCell hC0 0
  have x1 := oCell hC0 1
  have x2 := oCell hC0 2
  simp at x0 x1 x2
  have hrow0 := pOwns_below hrow hal
  have hocc0 := row_occs hrow0 (fun y hy => (h1 y hy).below hal)
  have hbd : Below w0.heap.size w0 w0.drew := (Below.refl _ _).drew
  have hplace := occPlace_any av cv (L.map (·.o)) x.o x.a x.c w0.drew (hocc0.below hbd) ((hi.below hal).below hbd) hasc (by rw [List.length_map]; omega)
  rw [e1, e2, List.length_map] at hplace
  obtain ⟨n, hn⟩ : ∃ n, L.length = n := ⟨_, rfl⟩
  have Hn : Hid (L.length = n) := hn
  have HC : Hid (w.heap.size = C) := hC
  rw [hn] at hplace p0 hL
  clear e1 e2 hn
  go_enter Try.func33, Try.ntmps33
  go_wp2_with fail
  go_region_held (fun v => v.cell? ⟨P, 0, none⟩ = some (.slice av n cv) ∧ v.cell? ⟨C, 0, none⟩ = some (.int .i64 x.o.fr) ∧ v.cell? ⟨C, 1, none⟩ = some (.int .i64 x.o.tl) ∧ v.cell? ⟨C, 2, none⟩ = some (.slice x.a x.o.ids.length x.c)) (go_keep)
    (first | (go_at_call 25; refine hplace.mono ?_; rintro e w1 ⟨rfl, hb1⟩; have hP1 := ((hbd.trans hb1).block P (Nat.lt_of_lt_of_le hPl hal.size)).trans hP0; have hC1 := ((hbd.trans hb1).block C (Array.getElem?_eq_some_iff.1 hC0).1).trans hC0; have q0 := oCell hP1 0; have z0 := oCell hC1 0; have z1 := oCell hC1 1; have z2 := oCell hC1 2; simp at q0 z0 z1 z2; rw [Hn.out] at q0))
  have b01 : Below w0.heap.size w0 w1 := hbd.trans hb1
  have hba := oBelow_new w1 (.cells #[.int .i64 x.o.fr, .int .i64 x.o.tl, .slice x.a x.o.ids.length x.c] 32)
  have hvb : (w1.alloc (.cells #[.int .i64 x.o.fr, .int .i64 x.o.tl, .slice x.a x.o.ids.length x.c] 32)).heap[w1.heap.size]? = some (.cells #[.int .i64 x.o.fr, .int .i64 x.o.tl, .slice x.a x.o.ids.length x.c] 32 (0, 0)) := heap_alloc_new w1 _
  obtain ⟨wn, hwn⟩ : ∃ wn, w1.alloc (.cells #[.int .i64 x.o.fr, .int .i64 x.o.tl, .slice x.a x.o.ids.length x.c] 32) = wn := ⟨_, rfl⟩
  rw [hwn] at hba hvb
  have hbn : Below wn.heap.size wn wn.drew := (Below.refl _ _).drew
  have b0n : Below w0.heap.size w0 wn.drew := (b01.trans (hba.mono b01.size)).trans (hbn.mono (Nat.le_trans b01.size hba.size))
  have hins := insertEnd_any B av cv L x w1.heap.size wn.drew (pOwns_below hrow0 b0n) (by rw [Hn.out]; omega) (Nat.le_trans hB (Nat.le_trans hal.size b0n.size)) hvb
  rw [Hn.out] at hins
  have hPn : wn.drew.heap[P]? = some (.cells #[.slice av L.length cv] 57 (0, 0)) := (b0n.block P (Nat.lt_of_lt_of_le hPl hal.size)).trans hP0
  have hrowlt : ∀ k, (Value.slice av L.length cv).ownBlock = some k → B ≤ k ∧ k < w.heap.size := fun k hk => hrow.lt k hk
  have hnP : some P ≠ (Value.slice av L.length cv).ownBlock := fun e => by have := (hrowlt P e.symm).1; omega
  have hPnl : P < wn.drew.heap.size := (Array.getElem?_eq_some_iff.1 hPn).1
  rw [Hn.out] at hnP hPn hrowlt
  have qn : wn.cell? ⟨P, 0, none⟩ = some (.slice av n cv) := by
    have := oCell (w := wn) hPn 0
    simpa using this
  clear hplace hocc0 hrow0 h1 hasc hend hw0 p0 x0 x1 x2
  go_wp2_with fail
  go_region_with (go_at_call 52; refine hins.mono ?_; rintro e w2 ⟨v2, rfl, r1, r2, r3⟩; obtain ⟨a2, c2, rfl⟩ := pOwns_slice r1; have hP2 := (r2.block P hPnl hnP).trans hPn; have t0 := oCell hP2 0; simp at t0; have ft : w2.frozen? ⟨P, 0, none⟩ = false := (by simp [World.frozen?, hP2]))
  all_goals (
    have r2' : wn.drew.grownBy w2 (Value.slice av L.length cv).ownBlock := by rw [Hn.out]; exact r2
    have r3' : ∀ k, (Value.slice a2 (L.length + 1) c2).ownBlock = some k → (Value.slice av L.length cv).ownBlock = some k ∨ wn.drew.heap.size ≤ k := by rw [Hn.out] at r3 ⊢; exact r3
    obtain ⟨u, hu⟩ : ∃ u, w2.setCell ⟨P, 0, none⟩ (.slice a2 (L.length + 1) c2) = u := ⟨_, rfl⟩
    have hgu : w2.grownBy u (some P) := by rw [← hu]; exact grownBy_setCell (grownBy_refl _ _) _
    have hPu : u.heap[P]? = some (.cells #[.slice a2 (L.length + 1) c2] 57 (0, 0)) := by rw [← hu]; simp [World.setCell, Array.getElem?_modify, hP2]
    have hlate : LatePost w P B av cv L x u := by
      refine ⟨a2, c2, hPu, ?_, ?_, ?_, ?_, ?_, fun i h1 h2 h3 => ?_, fun k hk => ?_⟩
      · rw [ocCells_snoc]
        exact r1.kept hgu (.inr fun e => by
          have := (r1.lt P e).1
          omega)
      · exact hgu.os.trans (r2'.os.trans (b0n.os.trans hal.os))
      · exact hgu.tape.trans (r2'.tape.trans (b0n.tape.trans hal.tape))
      · exact hgu.output.trans (r2'.output.trans (b0n.output.trans hal.output))
      · exact Nat.le_trans hal.size (Nat.le_trans b0n.size (Nat.le_trans r2'.size hgu.size))
      · have i0 := Nat.lt_of_lt_of_le h1 hal.size
        have i1 := Nat.lt_of_lt_of_le i0 b0n.size
        have i2 := Nat.lt_of_lt_of_le i1 r2'.size
        exact (hgu.block i i2 (fun e => h2 (Option.some.inj e))).trans ((r2'.block i i1 (fun e => h3 e.symm)).trans ((b0n.block i i0).trans (hal.block i h1)))
      · rcases r3' k hk with h1 | h1
        · exact .inl h1
        · exact .inr (Nat.le_trans hal.size (Nat.le_trans b0n.size h1))
    rw [hu]
    go_wp2_with fail
    go_end0
    exact ⟨rfl, hlate⟩)
end Go.Proofs.Ytmomoboedoljfaa
