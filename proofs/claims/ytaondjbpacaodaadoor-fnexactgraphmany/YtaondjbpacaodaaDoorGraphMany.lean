/- At everything that is looked for the program's GraphMany answers as the specification's; the argument reads afterwards as before. The error that the program's panics bear is as its text lays it. -/
import Derived.Test.YtaondjbpacaodaaDoorExBox
import Derived.Test.YtaondjbpacaodaaDoorPlanF
import Derived.Test.YtaondjbpacaodaaDoorExImpl
import Derived.Test.YtaondjbpacaodaaDoorCards
import Derived.Test.YtaondjbpacaodaaDoorTie
import Derived.Deep.DeepHandedRow
import Derived.LaidLaws
import Derived.MakeChecks
import Derived.Stop.ErrReads
import Derived.RowKitTokens
namespace Go.Proofs.YtaondjbpacaodaaDoor.fnExactGraphMany
open Go.ChangeShapes Go.WideShapes Go.ChangeAt Go.RowKit
set_option linter.unusedVariables false
set_option maxRecDepth 4000

set_option maxHeartbeats 1000000 in
theorem walk (kd sy n : Int) (a : Option Addr) (cap : Nat) (F : Fo) (w : World) (t : TypeId) (v : Value) (h : Slc w a F) (hE : ErrAt w t v) :
    Calls Tryd.prog 4 #[.agg #[.int .i64 kd, .int .i64 sy, .int .i64 n, .slice a F.len cap]] w fun e w' => e = .returned (.bool true) ∧ Below w.heap.size w w' := by
  have hA0 := box_new w (.int .i64 kd) (.int .i64 sy) (.int .i64 n) (.slice a F.len cap) 24
  have b00 := below_new w (.cells #[.int .i64 kd, .int .i64 sy, .int .i64 n, .slice a F.len cap] 24)
  obtain ⟨w0, hw0⟩ : ∃ w0, w.alloc (.cells #[.int .i64 kd, .int .i64 sy, .int .i64 n, .slice a F.len cap] 24) = w0 := ⟨_, rfl⟩
  rw [hw0] at hA0 b00
  by_cases hbig : F.size ≤ 1048576
  · have hif : szLeft 1048576 F.size = 1048576 - (F.size : Int) := if_neg (by omega)
    have hge : ¬ (1048576 - (F.size : Int) < 0) := by omega
    obtain ⟨p0, p1, p2, p3⟩ := hA0.cells
    go_enter Tryd.func4, Tryd.ntmps4
    go_wp2_with fail
    refine (szEx_any kd sy n a cap F _ _ (h.below b00) (by omega) (by omega)).mono ?_
    rintro e w1 ⟨rfl, hb1⟩
    rw [hif]
    clear hif p0 p1 p2 p3
    have b01 := b00.trans (hb1.mono b00.size)
    have hA1 := hA0.below hb1
    obtain ⟨p0, p1, p2, p3⟩ := hA1.cells
    go_wp2_with fail
    refine (toEx_any kd sy n a cap F _ (h.below b01) hbig).mono ?_
    rintro e w2 ⟨b2, S2, rfl, hr2, hb2⟩
    have b02 := b01.trans (hb2.mono b01.size)
    clear p0 p1 p2 p3
    go_wp2_with fail
    refine (specGraphMany_any kd sy n _ _ F _ hbig hr2.slc).mono ?_
    rintro e w3 ⟨rfl, hb3⟩
    have b03 := b02.trans (hb3.mono b02.size)
    have hA3 := (hA1.below hb2).below hb3
    obtain ⟨p0, p1, p2, p3⟩ := hA3.cells
    go_wp2_with fail
    refine (toEx_any kd sy n a cap F _ (h.below b03) hbig).mono ?_
    rintro e w4 ⟨b4, S4, rfl, hr4, hb4⟩
    have b04 := b03.trans (hb4.mono b03.size)
    have hA4 := hA3.below hb4
    clear p0 p1 p2 p3
    obtain ⟨w5, hw5⟩ : ∃ w5, w4.alloc (.cells #[.int .i64 kd, .int .i64 sy, .int .i64 n, .slice (some ⟨b4, 0, none⟩) F.len F.len] 32) = w5 := ⟨_, rfl⟩
    have hX5 := box_new w4 (.int .i64 kd) (.int .i64 sy) (.int .i64 n) (.slice (some ⟨b4, 0, none⟩) F.len F.len) 32
    have hb5 := below_new w4 (.cells #[.int .i64 kd, .int .i64 sy, .int .i64 n, .slice (some ⟨b4, 0, none⟩) F.len F.len] 32)
    rw [hw5] at hX5 hb5
    have hA5 := hA4.below hb5
    have b05 := b04.trans (hb5.mono b04.size)
    obtain ⟨q0, q1, q2, q3⟩ := hX5.cells
    go_wp2_with fail
    refine (implGraphMany_any kd sy n _ _ F _ t v (hE.below b05) (hr4.slc.below hb5)).mono ?_
    rintro e w6 ⟨rfl, hb6⟩
    clear q0 q1 q2 q3 hw5
    have b06 := b05.trans (hb6.mono b05.size)
    have hA6 := hA5.below hb6
    have hX6 := hX5.below hb6
    have b46 := hb5.trans (hb6.mono hb5.size)
    obtain ⟨p0, p1, p2, p3⟩ := hA6.cells
    obtain ⟨q0, q1, q2, q3⟩ := hX6.cells
    have hX6d : Box4 w6.drew w4.heap.size (.int .i64 kd) (.int .i64 sy) (.int .i64 n) (.slice (some ⟨b4, 0, none⟩) F.len F.len) := hX6
    have hA6d : Box4 w6.drew w.heap.size (.int .i64 kd) (.int .i64 sy) (.int .i64 n) (.slice a F.len cap) := hA6
    have b46d := b46.drew
    have b06d := b06.drew
    have hself := eqX_self kd sy n F
    go_wp2_with fail
    go_region_held (fun v => (v.cell? ⟨w.heap.size, 0, none⟩ = some (.int .i64 kd) ∧ v.cell? ⟨w.heap.size, 1, none⟩ = some (.int .i64 sy) ∧ v.cell? ⟨w.heap.size, 2, none⟩ = some (.int .i64 n) ∧ v.cell? ⟨w.heap.size, 3, none⟩ = some (.slice a F.len cap)) ∧
        (v.cell? ⟨w4.heap.size, 0, none⟩ = some (.int .i64 kd) ∧ v.cell? ⟨w4.heap.size, 1, none⟩ = some (.int .i64 sy) ∧ v.cell? ⟨w4.heap.size, 2, none⟩ = some (.int .i64 n) ∧ v.cell? ⟨w4.heap.size, 3, none⟩ = some (.slice (some ⟨b4, 0, none⟩) F.len F.len))) (go_keep)
      (first
      | (go_at_call 7; refine (toEx_any kd sy n a cap F _ (h.below b06d) hbig).mono ?_; rintro e w7 ⟨b7, S7, rfl, hr7, hb7⟩; obtain ⟨r0, r1, r2, r3⟩ := (hX6d.below hb7).cells; obtain ⟨s0, s1, s2, s3⟩ := (hA6d.below hb7).cells)
      | (go_at_call 10; refine (eqEx_any kd sy n _ _ F kd sy n _ _ F _ (hr4.slc.below (b46d.trans (hb7.mono b46d.size))) hr7.slc).mono ?_; rintro e w8 ⟨rfl, hb8⟩; obtain ⟨t0, t1, t2, t3⟩ := ((hX6d.below hb7).below hb8).cells; obtain ⟨u0, u1, u2, u3⟩ := ((hA6d.below hb7).below hb8).cells))
    all_goals have b07 : Below w.heap.size w w7 := b06d.trans (hb7.mono b06d.size)
    all_goals have b08 : Below w.heap.size w w8 := b07.trans (hb8.mono b07.size)
    all_goals clear p0 p1 p2 p3 q0 q1 q2 q3
    all_goals go_wp2
    all_goals go_ret
    all_goals exact ⟨rfl, b08⟩
  · have hif : szLeft 1048576 F.size = -1 := if_pos (by omega)
    obtain ⟨p0, p1, p2, p3⟩ := hA0.cells
    go_enter Tryd.func4, Tryd.ntmps4
    go_wp2_with fail
    refine (szEx_any kd sy n a cap F _ _ (h.below b00) (by omega) (by omega)).mono ?_
    rintro e w1 ⟨rfl, hb1⟩
    rw [hif]
    clear hif
    go_wp2
    go_ret
    exact ⟨rfl, b00.trans (hb1.mono b00.size)⟩

theorem globErr : Tryd.prog.globalNamed "loop.example/bellman/impl.errExNone" = some 0 := by kernel_rfl
theorem typeErr : (Tryd.prog.globals[0]?).map (·.type) = some 106 := by kernel_rfl
theorem cellsErr : Tryd.prog.cellsOf 157 = 1 := by kernel_rfl
theorem cellsStr : Tryd.prog.cellsOf 9 = 1 := by kernel_rfl
theorem starErr : "*" ++ "errors.errorString" = "*errors.errorString" := by decide
theorem rowErr (u : TypeId) (h : Tryd.prog.typeName? 3 u = some "*errors.errorString") : u = 121 :=
  typeName_ptr_named (nm := "errors.errorString") (by rw [starErr]; kernel_rfl) (by kernel_rfl) (by decide) u (by rw [starErr]; exact h)
/-- The sentinel is an interface value that holds something. -/
theorem sentinel {W : World} (h : laidMetH Tryd.prog Rows.fnExactGraphManyRow.laid W) : ∃ a, W.var? Tryd.prog "loop.example/bellman/impl.errExNone" = some #[.iface 121 (.pointer (some a))] := by
  have h1 := h.filter (fun x => x.1 == "loop.example/bellman/impl.errExNone")
  have e : Rows.fnExactGraphManyRow.laid.filter (fun x => x.1 == "loop.example/bellman/impl.errExNone") = [("loop.example/bellman/impl.errExNone", Rows.laid_loop_example_bellman_impl_errExNone)] := by kernel_rfl
  rw [e, Go.MakeChecks.laidMetH_plain _ _ _ (by kernel_rfl)] at h1
  obtain ⟨ps, ⟨g0, t0, cs0, f0, p0, q0, hg0, ht0, hv0, hd0, hq, e0⟩, hnd, hrows⟩ := h1
  obtain rfl := Option.some.inj (globErr.symm.trans hg0)
  obtain rfl := Option.some.inj (typeErr.symm.trans ht0)
  subst e0
  obtain ⟨l0⟩ := cs0
  have ok0 : ∀ u v, l0 = [.iface u v] → Value.okWide Tryd.prog W .any 0 u v := fun u v e => by
    subst e
    exact (hrows 0 0 (by simp [MemPlace.row])).2 u v (by simpa using World.var?_cell hg0 hv0 0)
  obtain ⟨a0, s0, rfl, _, _, _, _⟩ := errorString_of_trod Tryd.underlying106 rowErr Tryd.underlying121 Tryd.underlying157 rfl rfl Tryd.underlying9 cellsErr cellsStr hd0 ok0
  exact ⟨a0, hv0⟩
theorem errAt {W : World} {a : Addr} (h : W.var? Tryd.prog "loop.example/bellman/impl.errExNone" = some #[.iface 121 (.pointer (some a))]) : ErrAt W 121 (.pointer (some a)) := by
  have := World.var?_cell globErr h 0
  simpa [ErrAt] using this
theorem var_below {W W' : World} {cs : Array Value} (h : W.var? Tryd.prog "loop.example/bellman/impl.errExNone" = some cs) (hb : Below W.heap.size W W') : W'.var? Tryd.prog "loop.example/bellman/impl.errExNone" = some cs := by
  unfold World.var? at h ⊢
  simp only [globErr, Option.bind_some] at h ⊢
  have hlt : 0 < W.heap.size := by
    rcases Nat.lt_or_ge 0 W.heap.size with h' | h'
    · exact h'
    · simp [Array.getElem?_eq_none h'] at h
  rw [hb.block _ hlt]
  exact h
theorem vars_read {H : Type} (enc : TypeId × Value → H) {W : World} {a : Addr} (h0 : W.var? Tryd.prog "loop.example/bellman/impl.errExNone" = some #[.iface 121 (.pointer (some a))]) (sp : Nat → Bool) :
    DataW.TrodVars enc Tryd.prog W sp ["loop.example/bellman/impl.errExNone"] [tok enc (.iface 121 (.pointer (some a)))] [.cell 0 0] :=
  ⟨0, 106, #[.iface 121 (.pointer (some a))], 1, [], [], globErr, typeErr, h0, trod_held Tryd.underlying106 (show IsIface (.iface 121 (.pointer (some a))) from trivial) 0, rfl, rfl⟩

theorem contract (H : Type) (enc : TypeId × Value → H) (W : World) (base : Nat) (args : Array Value) (ds gs : List (DataW H)) (before : List MemPlace)
    (hval : ∀ (j : Nat) t v, Tryd.f4.params[j]? = some t → args[j]? = some v → Value.okWide Tryd.prog W .any base t v)
    (hW : DataW.Whole enc Tryd.prog Tryd.f4.params.toList Rows.fnExactGraphManySpec.vars false W args.toList ds gs before) (hL : laidMetH Tryd.prog Rows.fnExactGraphManyRow.laid W) :
    Calls Tryd.prog 4 args W fun e W' => ∃ v, e = .returned v ∧ Rows.fnExactGraphManySpec.post enc Tryd.prog Tryd.f4 false true false false W args v W' := by
  have hW' := hW
  obtain ⟨p, q, hA0, hV0, rfl, hfz, hnd⟩ := hW
  have hA : DataW.TrodAll enc Tryd.prog W 0 (fun _ => true) true Tryd.f4.params.toList args.toList ds p := hA0
  have hV : DataW.TrodVars enc Tryd.prog W (fun _ => true) ["loop.example/bellman/impl.errExNone"] gs q := hV0
  rw [Tryd.params4] at hA hval
  obtain ⟨v0, vs0, d0, ds0, p0, q0, hargs, rfl, rfl, h0, r0⟩ := trodAll_cons hA
  obtain ⟨rfl, rfl, rfl⟩ := trodAll_nil r0
  obtain rfl : args = #[v0] := by cases args; simp_all
  obtain ⟨ea, hva⟩ := sentinel hL
  obtain ⟨rfl, rfl⟩ := hV.unique (vars_read enc hva _)
  have k0 := h0
  have lt0 : ∀ x ∈ p0, x.block < W.heap.size := by obtain ⟨m, hm⟩ := k0; exact DataW.trod_lt m _ _ _ hm
  obtain ⟨kd0, sy0, n0, a0, cap0, F0, rfl, e0⟩ := open_ex (hval 0 24 v0 rfl rfl) h0
  clear hA0 hV0
  refine (walk kd0 sy0 n0 a0 cap0 F0 W 121 (.pointer (some ea)) e0 (errAt hva)).mono fun e W' ⟨he, bel⟩ => ?_
  subst he
  exact ⟨_, rfl, _, _, _, [], _, [.cell 0 0], hW', trodAll_mk1 (shut_bool Tryd.underlying4 _), (trodAll_cons_mk (Below.trod laidOut (by kernel_rfl) (of_decide_eq_true (by kernel_rfl)) k0 bel lt0) trodAll_mk0), vars_read enc (var_below hva bel) _, bel.frame _, fun h => by cases h⟩

noncomputable def low : Nat := (World.holding Tryd.prog default ⟨#[], #[], []⟩).heap.size
theorem laid_met (os : Os) : laidMet Tryd.prog Rows.fnExactGraphManyRow.laid (({ World.holding Tryd.prog os ⟨#[.cells #[.string { data := #[110, 111, 116, 104, 105, 110, 103, 32, 116, 104, 97, 116, 32, 105, 115, 32, 108, 111, 111, 107, 101, 100, 32, 102, 111, 114] }] 157], #[], []⟩ with heap := ((World.holding Tryd.prog os ⟨#[.cells #[.string { data := #[110, 111, 116, 104, 105, 110, 103, 32, 116, 104, 97, 116, 32, 105, 115, 32, 108, 111, 111, 107, 101, 100, 32, 102, 111, 114] }] 157], #[], []⟩).heap.modify 0 fun
      | .cells _ t frozen => .cells #[.iface 121 (.pointer (some ⟨low, 0, none⟩))] t frozen
      | o => o) } : World).forCall (fun _ _ => 0) ⟨#[], #[.agg #[.int .i64 0, .int .i64 0, .int .i64 0, .slice none 0 0]], []⟩).memory :=
  laidMet_of_run' 8 (by kernel_rfl) (by kernel_rfl)
theorem reads (os : Os) {H : Type} (enc : TypeId × Value → H) : DataW.whole enc Tryd.prog (({ World.holding Tryd.prog os ⟨#[.cells #[.string { data := #[110, 111, 116, 104, 105, 110, 103, 32, 116, 104, 97, 116, 32, 105, 115, 32, 108, 111, 111, 107, 101, 100, 32, 102, 111, 114] }] 157], #[], []⟩ with heap := ((World.holding Tryd.prog os ⟨#[.cells #[.string { data := #[110, 111, 116, 104, 105, 110, 103, 32, 116, 104, 97, 116, 32, 105, 115, 32, 108, 111, 111, 107, 101, 100, 32, 102, 111, 114] }] 157], #[], []⟩).heap.modify 0 fun
      | .cells _ t frozen => .cells #[.iface 121 (.pointer (some ⟨low, 0, none⟩))] t frozen
      | o => o) } : World).forCall (fun _ _ => 0) ⟨#[], #[.agg #[.int .i64 0, .int .i64 0, .int .i64 0, .slice none 0 0]], []⟩).memory Tryd.f4.params.toList Rows.fnExactGraphManySpec.vars false (#[.agg #[.int .i64 0, .int .i64 0, .int .i64 0, .slice none 0 0]] : Array Value).toList 8 = some ([.agg [.lit (.int .i64 0), .lit (.int .i64 0), .lit (.int .i64 0), .nil]], [tok enc (.iface 121 (.pointer (some ⟨low, 0, none⟩)))], [.cell 0 0]) := by kernel_rfl

set_option maxRecDepth 100000 in
theorem lifted (os : Os) (started : os.Started) (H : Type) (enc : TypeId × Value → H) (F : Stop.Interp) :
    ReturnsInHanded {} Tryd.checked os 4 .any ((OpenSpec.ofChange Rows.fnExactGraphManySpec).preRow enc Tryd.prog Tryd.f4 Rows.fnExactGraphManyRow.domain false Rows.fnExactGraphManyRow.laid) (((OpenSpec.ofChange Rows.fnExactGraphManySpec).at F).post enc Tryd.prog Tryd.f4 false true false false) := by
  refine returnsInHanded_of_row (C := Tryd.checked) (s := OpenSpec.ofChange Rows.fnExactGraphManySpec) own started (by kernel_rfl) Tryd.func4
    (witness_row_at (enc := enc) (C := Tryd.checked) false ({ World.holding Tryd.prog os ⟨#[.cells #[.string { data := #[110, 111, 116, 104, 105, 110, 103, 32, 116, 104, 97, 116, 32, 105, 115, 32, 108, 111, 111, 107, 101, 100, 32, 102, 111, 114] }] 157], #[], []⟩ with heap := ((World.holding Tryd.prog os ⟨#[.cells #[.string { data := #[110, 111, 116, 104, 105, 110, 103, 32, 116, 104, 97, 116, 32, 105, 115, 32, 108, 111, 111, 107, 101, 100, 32, 102, 111, 114] }] 157], #[], []⟩).heap.modify 0 fun
      | .cells _ t frozen => .cells #[.iface 121 (.pointer (some ⟨low, 0, none⟩))] t frozen
      | o => o) } : World) #[.agg #[.int .i64 0, .int .i64 0, .int .i64 0, .slice none 0 0]] rfl (by kernel_rfl) (by kernel_rfl) (by kernel_rfl)
      (OpenSpec.preRow_of_cond 8 (reads os enc) (by kernel_rfl) (fun k hk => by cases hk) (by kernel_rfl) (laid_met os))) ?_
  intro W base args ds gs before hval hW _ _ _ hL hSh _
  exact contract H enc W base args ds gs before hval hW hL

theorem said : Rows.FnExactGraphManySaid :=
  OpenClaim.holds_of_cond 4 Tryd.f4 rfl rfl rfl rfl rfl rfl rfl ⟨rfl, rfl, rfl, rfl, rfl⟩ rfl rfl rfl rfl rfl (by kernel_rfl) Tryd.func4 (by kernel_rfl)
    (of_decide_eq_true (by kernel_rfl)) (by unfold Func.isWrapper; first | (rw [if_pos (by decide +kernel)]; kernel_rfl) | (rw [if_neg (by decide +kernel)]; exact ⟨rfl, rfl⟩))
    (fun os started H enc _ F => by rw [OpenClaim.pre_eq_preRow]; exact lifted os started H enc F)

theorem plain (f : FuncId) (fn : Func) (hf : Tryd.pinned.checked.prog.funcNamed "loop.example/bellman/laws.FnExactGraphMany" = some f) (hfn : Tryd.pinned.checked.prog.funcs[f]? = some fn) :
    false = Tryd.pinned.checked.prog.looks [] ∧ ∀ (j : Nat) t, fn.params[j]? = some t → Tryd.pinned.checked.prog.wantsStandIn t = false := by
  obtain rfl : f = 4 := Option.some.inj ((show Tryd.prog.funcNamed "loop.example/bellman/laws.FnExactGraphMany" = some 4 by kernel_rfl).symm.trans hf) |>.symm
  obtain rfl : fn = Tryd.f4 := (Option.some.inj (Tryd.func4.symm.trans hfn)).symm
  refine ⟨by kernel_rfl, fun j t ht => ?_⟩
  rw [Tryd.params4] at ht
  have hm := Array.mem_of_getElem? ht
  simp only [List.mem_toArray, List.mem_cons, List.not_mem_nil, or_false] at hm
  rcases hm with rfl
  · exact (show Tryd.prog.wantsStandIn 24 = false by kernel_rfl)

theorem card : Rows.FnExactGraphManyCardSaid :=
  Claim7.holds_tied_plain_at .later [] _ _ _ _ said (fun _ h => by cases h) (by kernel_rfl) (fun _ h => by cases h) fnExactGraphMany_row_tie rfl ⟨rfl, rfl⟩ (by kernel_rfl) rfl plain (by kernel_rfl)
end Go.Proofs.YtaondjbpacaodaaDoor.fnExactGraphMany
namespace Go.Proofs.YtaondjbpacaodaaDoor
theorem fnExactGraphMany_holds : Rows.FnExactGraphManyCardSaid := fnExactGraphMany.card
#print axioms fnExactGraphMany_holds
end Go.Proofs.YtaondjbpacaodaaDoor

