/- At every graph the program's GraphOk answers as the specification's; the argument reads afterwards as before. The error that the program's panics bear is as its text lays it. -/
import Derived.Test.YtlfejpakmgbpnaaDoorGOk5
import Derived.Test.YtlfejpakmgbpnaaDoorErr
import Derived.Test.YtlfejpakmgbpnaaDoorCards
import Derived.Test.YtlfejpakmgbpnaaDoorTie
import Derived.Deep.DeepHandedRow
import Derived.Deep.RegionHeld
import Derived.LaidLaws
import Derived.MakeChecks
import Derived.Stop.ErrReads
import Derived.RowKitTokens
namespace Go.Proofs.YtlfejpakmgbpnaaDoor.fnExactGraphOk
open Go.ChangeShapes Go.WideShapes Go.ChangeAt Go.RowKit
set_option linter.unusedVariables false
set_option maxRecDepth 4000

set_option maxHeartbeats 4000000 in
theorem walk (m : Int) (a : Option Addr) (cap : Nat) (l : List Nd) (se nw : Int) (fu : Bool) (w : World) (t : TypeId) (v : Value) (h : Nds w a l) (hx : ∀ x ∈ l, x.Wf) (_ : I64 m) (_ : I64 se) (_ : I64 nw) (hE : ErrAt w t v) :
    Calls Tryd.prog 3 #[.agg (gC m a l.length cap se nw fu)] w fun e w' => e = .returned (.bool true) ∧ Below w.heap.size w w' := by
  obtain ⟨w0, hw0⟩ : ∃ w0, w.alloc (.cells (gC m a l.length cap se nw fu) 24) = w0 := ⟨_, rfl⟩
  have hA0 := bx_new w (gC m a l.length cap se nw fu) 24
  have b00 := oBelow_new w (.cells (gC m a l.length cap se nw fu) 24)
  rw [hw0] at hA0 b00
  obtain ⟨A, hA⟩ : ∃ A, w.heap.size = A := ⟨_, rfl⟩
  rw [hA] at hA0
  clear hE t v
  obtain ⟨p0, p1, p2, p3, p4⟩ := hA0.five
  unfold gC at hw0 ⊢
  by_cases hbig : ndsSize l ≤ 1048576
  case neg =>
    have hif : szDown 1048576 (ndsSize l) = -1 := if_pos (by omega)
    go_enter Tryd.func3, Tryd.ntmps3
    go_wp2_with fail
    refine (szGraph_any m a cap l se nw fu _ _ (h.below b00) (by omega) (by omega)).mono ?_
    rintro e w1 ⟨rfl, hb1⟩
    rw [hif]
    clear hif
    go_wp2
    go_ret
    exact ⟨rfl, b00.trans (hb1.mono b00.size)⟩
  have hif : szDown 1048576 (ndsSize l) = 1048576 - (ndsSize l : Int) := if_neg (by omega)
  have hge : ¬ (1048576 - (ndsSize l : Int) < 0) := by omega
  go_enter Tryd.func3, Tryd.ntmps3
  go_wp2_with fail
  refine (szGraph_any m a cap l se nw fu _ _ (h.below b00) (by omega) (by omega)).mono ?_
  rintro e w1 ⟨rfl, hb1⟩
  rw [hif]
  clear hif p0 p1 p2 p3 p4 hw0
  have b01 := b00.trans (hb1.mono b00.size)
  have hA1 := hA0.below hb1
  obtain ⟨p0, p1, p2, p3, p4⟩ := hA1.five
  go_wp2_with fail
  refine (toGraph_any m a cap l se nw fu _ (h.below b01) hbig).mono ?_
  rintro e w2 ⟨b2, rfl, hr2, hb2⟩
  have b02 := b01.trans (hb2.mono b01.size)
  clear p0 p1 p2 p3 p4
  go_wp2_with fail
  refine (specGraphOk_any m _ _ l se nw fu _ hr2.nds).mono ?_
  rintro e w3 ⟨rfl, hb3⟩
  have b03 := b02.trans (hb3.mono b02.size)
  have hA3 := (hA1.below hb2).below hb3
  obtain ⟨p0, p1, p2, p3, p4⟩ := hA3.five
  go_wp2_with fail
  refine (toGraph_any m a cap l se nw fu _ (h.below b03) hbig).mono ?_
  rintro e w4 ⟨b4, rfl, hr4, hb4⟩
  have b04 := b03.trans (hb4.mono b03.size)
  have hA4 := hA3.below hb4
  clear p0 p1 p2 p3 p4
  obtain ⟨w5, hw5⟩ : ∃ w5, w4.alloc (.cells (gC m (some ⟨b4, 0, none⟩) l.length l.length se nw fu) 29) = w5 := ⟨_, rfl⟩
  have hX5 := bx_new w4 (gC m (some ⟨b4, 0, none⟩) l.length l.length se nw fu) 29
  have hb5 := oBelow_new w4 (.cells (gC m (some ⟨b4, 0, none⟩) l.length l.length se nw fu) 29)
  rw [hw5] at hX5 hb5
  obtain ⟨X, hX⟩ : ∃ X, w4.heap.size = X := ⟨_, rfl⟩
  rw [hX] at hX5
  have hA5 := hA4.below hb5
  have b05 := b04.trans (hb5.mono b04.size)
  have N5 := hr4.nds.below hb5
  unfold gC at hw5 ⊢
  obtain ⟨q0, q1, q2, q3, q4⟩ := hX5.five
  go_wp2_with fail
  refine (implGraphOk_any m _ _ l se nw fu _ N5).mono ?_
  rintro e w6 ⟨rfl, hb6⟩
  clear q0 q1 q2 q3 q4 hw5
  have b06 := b05.trans (hb6.mono b05.size)
  have hA6 := hA5.below hb6
  have hX6 := hX5.below hb6
  have N6 := N5.below hb6
  obtain ⟨p0, p1, p2, p3, p4⟩ := hA6.five
  obtain ⟨q0, q1, q2, q3, q4⟩ := hX6.five
  have hX6d : Bx w6.drew X (gC m (some ⟨b4, 0, none⟩) l.length l.length se nw fu) := hX6
  have hA6d : Bx w6.drew A (gC m a l.length cap se nw fu) := hA6
  have N6d : Nds w6.drew (some ⟨b4, 0, none⟩) l := N6.below (Below.refl _ _).drew
  have b06d := b06.drew
  have hself := grEqB_self m l se nw fu
  go_wp2_with fail
  go_region_held (fun v => (v.cell? ⟨A, 0, none⟩ = some (.int .i64 m) ∧ v.cell? ⟨A, 1, none⟩ = some (.slice a l.length cap) ∧ v.cell? ⟨A, 2, none⟩ = some (.int .i64 se) ∧ v.cell? ⟨A, 3, none⟩ = some (.int .i64 nw) ∧ v.cell? ⟨A, 4, none⟩ = some (.bool fu)) ∧
      (v.cell? ⟨X, 0, none⟩ = some (.int .i64 m) ∧ v.cell? ⟨X, 1, none⟩ = some (.slice (some ⟨b4, 0, none⟩) l.length l.length) ∧ v.cell? ⟨X, 2, none⟩ = some (.int .i64 se) ∧ v.cell? ⟨X, 3, none⟩ = some (.int .i64 nw) ∧ v.cell? ⟨X, 4, none⟩ = some (.bool fu))) (go_keep)
    (first
    | (go_at_call 6; refine (toGraph_any m a cap l se nw fu _ (h.below b06d) hbig).mono ?_; rintro e w7 ⟨b7, rfl, hr7, hb7⟩; obtain ⟨r0, r1, r2, r3, r4⟩ := (hX6d.below hb7).five; obtain ⟨s0, s1, s2, s3, s4⟩ := (hA6d.below hb7).five)
    | (go_at_call 8; refine (eqGraph_any m _ _ l se nw fu m _ _ l se nw fu _ (N6d.below hb7) hr7.nds).mono ?_; rintro e w8 ⟨rfl, hb8⟩; obtain ⟨t0, t1, t2, t3, t4⟩ := ((hX6d.below hb7).below hb8).five; obtain ⟨u0, u1, u2, u3, u4⟩ := ((hA6d.below hb7).below hb8).five))
  all_goals have b07 : Below w.heap.size w w7 := b06d.trans (hb7.mono b06d.size)
  all_goals have b08 : Below w.heap.size w w8 := b07.trans (hb8.mono b07.size)
  all_goals clear p0 p1 p2 p3 p4 q0 q1 q2 q3 q4
  all_goals go_wp2
  all_goals go_ret
  all_goals exact ⟨rfl, by first | exact b08 | (rw [← hA]; exact b08)⟩

theorem globErr : Tryd.prog.globalNamed "loop.example/bellman/impl.errExNone" = some 0 := by kernel_rfl
theorem typeErr : (Tryd.prog.globals[0]?).map (·.type) = some 94 := by kernel_rfl
theorem cellsErr : Tryd.prog.cellsOf 133 = 1 := by kernel_rfl
theorem cellsStr : Tryd.prog.cellsOf 9 = 1 := by kernel_rfl
theorem starErr : "*" ++ "errors.errorString" = "*errors.errorString" := by decide
theorem rowErr (u : TypeId) (h : Tryd.prog.typeName? 3 u = some "*errors.errorString") : u = 112 :=
  typeName_ptr_named (nm := "errors.errorString") (by rw [starErr]; kernel_rfl) (by kernel_rfl) (by decide) u (by rw [starErr]; exact h)
/-- The sentinel is an interface value that holds something. -/
theorem sentinel {W : World} (h : laidMetH Tryd.prog Rows.fnExactGraphOkRow.laid W) : ∃ a, W.var? Tryd.prog "loop.example/bellman/impl.errExNone" = some #[.iface 112 (.pointer (some a))] := by
  have h1 := h.filter (fun x => x.1 == "loop.example/bellman/impl.errExNone")
  have e : Rows.fnExactGraphOkRow.laid.filter (fun x => x.1 == "loop.example/bellman/impl.errExNone") = [("loop.example/bellman/impl.errExNone", Rows.laid_loop_example_bellman_impl_errExNone)] := by kernel_rfl
  rw [e, Go.MakeChecks.laidMetH_plain _ _ _ (by kernel_rfl)] at h1
  obtain ⟨ps, ⟨g0, t0, cs0, f0, p0, q0, hg0, ht0, hv0, hd0, hq, e0⟩, hnd, hrows⟩ := h1
  obtain rfl := Option.some.inj (globErr.symm.trans hg0)
  obtain rfl := Option.some.inj (typeErr.symm.trans ht0)
  subst e0
  obtain ⟨l0⟩ := cs0
  have ok0 : ∀ u v, l0 = [.iface u v] → Value.okWide Tryd.prog W .any 0 u v := fun u v e => by
    subst e
    exact (hrows 0 0 (by simp [MemPlace.row])).2 u v (by simpa using World.var?_cell hg0 hv0 0)
  obtain ⟨a0, s0, rfl, _, _, _, _⟩ := errorString_of_trod Tryd.underlying94 rowErr Tryd.underlying112 Tryd.underlying133 rfl rfl Tryd.underlying9 cellsErr cellsStr hd0 ok0
  exact ⟨a0, hv0⟩
theorem errAt {W : World} {a : Addr} (h : W.var? Tryd.prog "loop.example/bellman/impl.errExNone" = some #[.iface 112 (.pointer (some a))]) : ErrAt W 112 (.pointer (some a)) := by
  have := World.var?_cell globErr h 0
  simpa [ErrAt] using this
theorem var_below {W W' : World} {cs : Array Value} (h : W.var? Tryd.prog "loop.example/bellman/impl.errExNone" = some cs) (hb : Below W.heap.size W W') : W'.var? Tryd.prog "loop.example/bellman/impl.errExNone" = some cs := by
  unfold World.var? at h ⊢
  simp only [globErr, Option.bind_some] at h ⊢
  have hlt : 0 < W.heap.size := by
    rcases Nat.lt_or_ge 0 W.heap.size with h' | h'
    · exact h'
    · simp [Array.getElem?_eq_none h'] at h
  rw [hb.block _ hlt]
  exact h
theorem vars_read {H : Type} (enc : TypeId × Value → H) {W : World} {a : Addr} (h0 : W.var? Tryd.prog "loop.example/bellman/impl.errExNone" = some #[.iface 112 (.pointer (some a))]) (sp : Nat → Bool) :
    DataW.TrodVars enc Tryd.prog W sp ["loop.example/bellman/impl.errExNone"] [tok enc (.iface 112 (.pointer (some a)))] [.cell 0 0] :=
  ⟨0, 94, #[.iface 112 (.pointer (some a))], 1, [], [], globErr, typeErr, h0, trod_held Tryd.underlying94 (show IsIface (.iface 112 (.pointer (some a))) from trivial) 0, rfl, rfl⟩

theorem contract (H : Type) (enc : TypeId × Value → H) (W : World) (base : Nat) (args : Array Value) (ds gs : List (DataW H)) (before : List MemPlace)
    (hval : ∀ (j : Nat) t v, Tryd.f3.params[j]? = some t → args[j]? = some v → Value.okWide Tryd.prog W .any base t v)
    (hW : DataW.Whole enc Tryd.prog Tryd.f3.params.toList Rows.fnExactGraphOkSpec.vars false W args.toList ds gs before) (hL : laidMetH Tryd.prog Rows.fnExactGraphOkRow.laid W) :
    Calls Tryd.prog 3 args W fun e W' => ∃ v, e = .returned v ∧ Rows.fnExactGraphOkSpec.post enc Tryd.prog Tryd.f3 false true false false W args v W' := by
  have hW' := hW
  obtain ⟨p, q, hA0, hV0, rfl, hfz, hnd⟩ := hW
  have hA : DataW.TrodAll enc Tryd.prog W 0 (fun _ => true) true Tryd.f3.params.toList args.toList ds p := hA0
  have hV : DataW.TrodVars enc Tryd.prog W (fun _ => true) ["loop.example/bellman/impl.errExNone"] gs q := hV0
  rw [Tryd.params3] at hA hval
  obtain ⟨v0, vs0, d0, ds0, p0, q0, hargs, rfl, rfl, h0, r0⟩ := trodAll_cons hA
  obtain ⟨rfl, rfl, rfl⟩ := trodAll_nil r0
  obtain rfl : args = #[v0] := by cases args; simp_all
  obtain ⟨ea, hva⟩ := sentinel hL
  obtain ⟨rfl, rfl⟩ := hV.unique (vars_read enc hva _)
  have k0 := h0
  have lt0 : ∀ x ∈ p0, x.block < W.heap.size := by obtain ⟨m, hm⟩ := k0; exact DataW.trod_lt m _ _ _ hm
  obtain ⟨m0, a0, cap0, l0, se0, nw0, fu0, rfl, e0, f0, g0, gg0, ggg0⟩ := open_graph (hval 0 24 v0 rfl rfl) h0
  clear hA0 hV0
  refine (walk m0 a0 cap0 l0 se0 nw0 fu0 W 112 (.pointer (some ea)) e0 f0 g0 gg0 ggg0 (errAt hva)).mono fun e W' ⟨he, bel⟩ => ?_
  subst he
  exact ⟨_, rfl, _, _, _, [], _, [.cell 0 0], hW', trodAll_mk1 (shut_bool Tryd.underlying4 _), (trodAll_cons_mk (Below.trod laidOut (by kernel_rfl) (of_decide_eq_true (by kernel_rfl)) k0 bel lt0) trodAll_mk0), vars_read enc (var_below hva bel) _, bel.frame _, fun h => by cases h⟩

noncomputable def low : Nat := (World.holding Tryd.prog default ⟨#[], #[], []⟩).heap.size
theorem laid_met (os : Os) : laidMet Tryd.prog Rows.fnExactGraphOkRow.laid (({ World.holding Tryd.prog os ⟨#[.cells #[.string { data := #[110, 111, 116, 104, 105, 110, 103, 32, 116, 104, 97, 116, 32, 105, 115, 32, 108, 111, 111, 107, 101, 100, 32, 102, 111, 114] }] 133], #[], []⟩ with heap := ((World.holding Tryd.prog os ⟨#[.cells #[.string { data := #[110, 111, 116, 104, 105, 110, 103, 32, 116, 104, 97, 116, 32, 105, 115, 32, 108, 111, 111, 107, 101, 100, 32, 102, 111, 114] }] 133], #[], []⟩).heap.modify 0 fun
      | .cells _ t frozen => .cells #[.iface 112 (.pointer (some ⟨low, 0, none⟩))] t frozen
      | o => o) } : World).forCall (fun _ _ => 0) ⟨#[], #[.agg #[.int .i64 0, .slice none 0 0, .int .i64 0, .int .i64 0, .bool false]], []⟩).memory :=
  laidMet_of_run' 8 (by kernel_rfl) (by kernel_rfl)
theorem reads (os : Os) {H : Type} (enc : TypeId × Value → H) : DataW.whole enc Tryd.prog (({ World.holding Tryd.prog os ⟨#[.cells #[.string { data := #[110, 111, 116, 104, 105, 110, 103, 32, 116, 104, 97, 116, 32, 105, 115, 32, 108, 111, 111, 107, 101, 100, 32, 102, 111, 114] }] 133], #[], []⟩ with heap := ((World.holding Tryd.prog os ⟨#[.cells #[.string { data := #[110, 111, 116, 104, 105, 110, 103, 32, 116, 104, 97, 116, 32, 105, 115, 32, 108, 111, 111, 107, 101, 100, 32, 102, 111, 114] }] 133], #[], []⟩).heap.modify 0 fun
      | .cells _ t frozen => .cells #[.iface 112 (.pointer (some ⟨low, 0, none⟩))] t frozen
      | o => o) } : World).forCall (fun _ _ => 0) ⟨#[], #[.agg #[.int .i64 0, .slice none 0 0, .int .i64 0, .int .i64 0, .bool false]], []⟩).memory Tryd.f3.params.toList Rows.fnExactGraphOkSpec.vars false (#[.agg #[.int .i64 0, .slice none 0 0, .int .i64 0, .int .i64 0, .bool false]] : Array Value).toList 8 = some ([.agg [.lit (.int .i64 0), .nil, .lit (.int .i64 0), .lit (.int .i64 0), .lit (.bool false)]], [tok enc (.iface 112 (.pointer (some ⟨low, 0, none⟩)))], [.cell 0 0]) := by kernel_rfl

set_option maxRecDepth 100000 in
theorem lifted (os : Os) (started : os.Started) (H : Type) (enc : TypeId × Value → H) (F : Stop.Interp) :
    ReturnsInHanded {} Tryd.checked os 3 .any ((OpenSpec.ofChange Rows.fnExactGraphOkSpec).preRow enc Tryd.prog Tryd.f3 Rows.fnExactGraphOkRow.domain false Rows.fnExactGraphOkRow.laid) (((OpenSpec.ofChange Rows.fnExactGraphOkSpec).at F).post enc Tryd.prog Tryd.f3 false true false false) := by
  refine returnsInHanded_of_row (C := Tryd.checked) (s := OpenSpec.ofChange Rows.fnExactGraphOkSpec) own started (by kernel_rfl) Tryd.func3
    (witness_row_at (enc := enc) (C := Tryd.checked) false ({ World.holding Tryd.prog os ⟨#[.cells #[.string { data := #[110, 111, 116, 104, 105, 110, 103, 32, 116, 104, 97, 116, 32, 105, 115, 32, 108, 111, 111, 107, 101, 100, 32, 102, 111, 114] }] 133], #[], []⟩ with heap := ((World.holding Tryd.prog os ⟨#[.cells #[.string { data := #[110, 111, 116, 104, 105, 110, 103, 32, 116, 104, 97, 116, 32, 105, 115, 32, 108, 111, 111, 107, 101, 100, 32, 102, 111, 114] }] 133], #[], []⟩).heap.modify 0 fun
      | .cells _ t frozen => .cells #[.iface 112 (.pointer (some ⟨low, 0, none⟩))] t frozen
      | o => o) } : World) #[.agg #[.int .i64 0, .slice none 0 0, .int .i64 0, .int .i64 0, .bool false]] rfl (by kernel_rfl) (by kernel_rfl) (by kernel_rfl)
      (OpenSpec.preRow_of_cond 8 (reads os enc) (by kernel_rfl) (fun k hk => by cases hk) (by kernel_rfl) (laid_met os))) ?_
  intro W base args ds gs before hval hW _ _ _ hL hSh _
  exact contract H enc W base args ds gs before hval hW hL

theorem said : Rows.FnExactGraphOkSaid :=
  OpenClaim.holds_of_cond 3 Tryd.f3 rfl rfl rfl rfl rfl rfl rfl ⟨rfl, rfl, rfl, rfl, rfl⟩ rfl rfl rfl rfl rfl (by kernel_rfl) Tryd.func3 (by kernel_rfl)
    (of_decide_eq_true (by kernel_rfl)) (by unfold Func.isWrapper; first | (rw [if_pos (by decide +kernel)]; kernel_rfl) | (rw [if_neg (by decide +kernel)]; exact ⟨rfl, rfl⟩))
    (fun os started H enc _ F => by rw [OpenClaim.pre_eq_preRow]; exact lifted os started H enc F)

theorem plain (f : FuncId) (fn : Func) (hf : Tryd.pinned.checked.prog.funcNamed "loop.example/bellman/laws.FnExactGraphOk" = some f) (hfn : Tryd.pinned.checked.prog.funcs[f]? = some fn) :
    false = Tryd.pinned.checked.prog.looks [] ∧ ∀ (j : Nat) t, fn.params[j]? = some t → Tryd.pinned.checked.prog.wantsStandIn t = false := by
  obtain rfl : f = 3 := Option.some.inj ((show Tryd.prog.funcNamed "loop.example/bellman/laws.FnExactGraphOk" = some 3 by kernel_rfl).symm.trans hf) |>.symm
  obtain rfl : fn = Tryd.f3 := (Option.some.inj (Tryd.func3.symm.trans hfn)).symm
  refine ⟨by kernel_rfl, fun j t ht => ?_⟩
  rw [Tryd.params3] at ht
  have hm := Array.mem_of_getElem? ht
  simp only [List.mem_toArray, List.mem_cons, List.not_mem_nil, or_false] at hm
  rcases hm with rfl
  · exact (show Tryd.prog.wantsStandIn 24 = false by kernel_rfl)

theorem card : Rows.FnExactGraphOkCardSaid :=
  Claim7.holds_tied_plain_at .later [] _ _ _ _ said (fun _ h => by cases h) (by kernel_rfl) (fun _ h => by cases h) fnExactGraphOk_row_tie rfl ⟨rfl, rfl⟩ (by kernel_rfl) rfl plain (by kernel_rfl)
end Go.Proofs.YtlfejpakmgbpnaaDoor.fnExactGraphOk
namespace Go.Proofs.YtlfejpakmgbpnaaDoor
theorem fnExactGraphOk_holds : Rows.FnExactGraphOkCardSaid := fnExactGraphOk.card
#print axioms fnExactGraphOk_holds
end Go.Proofs.YtlfejpakmgbpnaaDoor

