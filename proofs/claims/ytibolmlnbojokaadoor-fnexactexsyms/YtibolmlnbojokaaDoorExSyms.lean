/- At everything that is looked for the program's ExSyms answers as the specification's, in memory of its own; the argument reads afterwards as before. The error that the program's panics bear is as its text lays it. -/
import Derived.Test.YtibolmlnbojokaaDoorExOwn
import Derived.Test.YtibolmlnbojokaaDoorCards
import Derived.Test.YtibolmlnbojokaaDoorTie
import Derived.Deep.DeepHandedRow
import Derived.LaidLaws
import Derived.MakeChecks
import Derived.Stop.ErrReads
import Derived.RowKitTokens
namespace Go.Proofs.YtibolmlnbojokaaDoor.fnExactExSyms
open Go.ChangeShapes Go.WideShapes Go.ChangeAt Go.RowKit
set_option linter.unusedVariables false

set_option maxHeartbeats 4000000 in
theorem walk (kd sy n : Int) (a : Option Addr) (cap : Nat) (F : Fo) (w : World) (t : TypeId) (v : Value) (h : Slc w a F) (hE : ErrAt w t v) :
    Calls Tryd.prog 5 #[.agg #[.int .i64 kd, .int .i64 sy, .int .i64 n, .slice a F.len cap]] w fun e w' => e = .returned (.bool true) ∧ Below w.heap.size w w' := by
  have hA0 := box_new w (.int .i64 kd) (.int .i64 sy) (.int .i64 n) (.slice a F.len cap) 24
  have b00 := below_new w (.cells #[.int .i64 kd, .int .i64 sy, .int .i64 n, .slice a F.len cap] 24)
  obtain ⟨w0, hw0⟩ : ∃ w0, w.alloc (.cells #[.int .i64 kd, .int .i64 sy, .int .i64 n, .slice a F.len cap] 24) = w0 := ⟨_, rfl⟩
  rw [hw0] at hA0 b00
  by_cases hbig : F.size ≤ 1048576
  · have hif : szLeft 1048576 F.size = 1048576 - (F.size : Int) := if_neg (by omega)
    have hge : ¬ (1048576 - (F.size : Int) < 0) := by omega
    obtain ⟨L, hL⟩ : ∃ L, symsX kd sy n F = L := ⟨_, rfl⟩
    have hLn : L.length ≤ 5 := by rw [← hL]; exact symsX_len kd sy n F
    have hspec := fun (b : Nat) (w' : World) => specSyms_own kd sy n (some ⟨b, 0, none⟩) F.len F w'
    have himpl := fun (b : Nat) (w' : World) => implSyms_own kd sy n (some ⟨b, 0, none⟩) F.len F w' t v
    rw [hL] at hspec himpl
    have hLself := intsEqB_self L
    have hself := eqX_self kd sy n F
    obtain ⟨p0, p1, p2, p3⟩ := hA0.cells
    go_enter Tryd.func5, Tryd.ntmps5
    go_wp2_with fail
    refine (szEx_any kd sy n a cap F _ _ (h.below b00) (by omega) (by omega)).mono ?_
    rintro e w1 ⟨rfl, hb1⟩
    rw [hif]
    clear hif p0 p1 p2 p3 hw0
    have b01 := b00.trans (hb1.mono b00.size)
    have hA1 := hA0.below hb1
    obtain ⟨p0, p1, p2, p3⟩ := hA1.cells
    go_wp2_with fail
    refine (toEx_any kd sy n a cap F _ (h.below b01) hbig).mono ?_
    rintro e w2 ⟨b2, S2, rfl, hr2, hb2⟩
    have b02 := b01.trans (hb2.mono b01.size)
    clear p0 p1 p2 p3
    go_wp2_with fail
    refine (hspec b2 w2 hr2.slc hbig).mono ?_
    rintro e w3 ⟨aw, capw, rfl, hW3, hWlt, hb3⟩
    have b03 := b02.trans (hb3.mono b02.size)
    have hA3 := (hA1.below hb2).below hb3
    obtain ⟨p0, p1, p2, p3⟩ := hA3.cells
    go_wp2_with fail
    refine (toEx_any kd sy n a cap F _ (h.below b03) hbig).mono ?_
    rintro e w4 ⟨b4, S4, rfl, hr4, hb4⟩
    have b04 := b03.trans (hb4.mono b03.size)
    have hA4 := hA3.below hb4
    clear p0 p1 p2 p3
    obtain ⟨w5, hw5⟩ : ∃ w5, w4.alloc (.cells #[.int .i64 kd, .int .i64 sy, .int .i64 n, .slice (some ⟨b4, 0, none⟩) F.len F.len] 29) = w5 := ⟨_, rfl⟩
    have hX5 := box_new w4 (.int .i64 kd) (.int .i64 sy) (.int .i64 n) (.slice (some ⟨b4, 0, none⟩) F.len F.len) 29
    have hb5 := below_new w4 (.cells #[.int .i64 kd, .int .i64 sy, .int .i64 n, .slice (some ⟨b4, 0, none⟩) F.len F.len] 29)
    rw [hw5] at hX5 hb5
    have hA5 := hA4.below hb5
    have b05 := b04.trans (hb5.mono b04.size)
    obtain ⟨q0, q1, q2, q3⟩ := hX5.cells
    go_wp2_with fail
    refine (himpl b4 w5 (hE.below b05) (hr4.slc.below hb5)).mono ?_
    rintro e w6 ⟨ag, capg, rfl, hG6, hGlt, hb6⟩
    clear q0 q1 q2 q3 hw5
    have b06 := b05.trans (hb6.mono b05.size)
    have b36 := (hb4.trans (hb5.mono hb4.size))
    have b36 := b36.trans (hb6.mono b36.size)
    have b46 := hb5.trans (hb6.mono hb5.size)
    have hA6 := hA5.below hb6
    have hX6 := hX5.below hb6
    have hW6 := hW3.below b36
    go_wp2_with fail
    refine (eqIntS_any _ _ _ _ L L _ hG6.ints hW6.ints).mono ?_
    rintro e w7 ⟨rfl, hb7⟩
    have b07 := b06.trans (hb7.mono b06.size)
    have b47 := b46.trans (hb7.mono b46.size)
    have hA7 := hA6.below hb7
    have hX7 := hX6.below hb7
    have hG7 := hG6.below hb7
    have hW7 := hW6.below hb7
    obtain ⟨p0, p1, p2, p3⟩ := hA7.cells
    obtain ⟨q0, q1, q2, q3⟩ := hX7.cells
    have hX7d : Box4 w7.drew w4.heap.size (.int .i64 kd) (.int .i64 sy) (.int .i64 n) (.slice (some ⟨b4, 0, none⟩) F.len F.len) := hX7
    have hA7d : Box4 w7.drew w.heap.size (.int .i64 kd) (.int .i64 sy) (.int .i64 n) (.slice a F.len cap) := hA7
    have b47d := b47.drew
    have b07d := b07.drew
    go_wp2_with fail
    go_region_held (fun v => (v.cell? ⟨w.heap.size, 0, none⟩ = some (.int .i64 kd) ∧ v.cell? ⟨w.heap.size, 1, none⟩ = some (.int .i64 sy) ∧ v.cell? ⟨w.heap.size, 2, none⟩ = some (.int .i64 n) ∧ v.cell? ⟨w.heap.size, 3, none⟩ = some (.slice a F.len cap)) ∧ (v.cell? ⟨w4.heap.size, 0, none⟩ = some (.int .i64 kd) ∧ v.cell? ⟨w4.heap.size, 1, none⟩ = some (.int .i64 sy) ∧ v.cell? ⟨w4.heap.size, 2, none⟩ = some (.int .i64 n) ∧ v.cell? ⟨w4.heap.size, 3, none⟩ = some (.slice (some ⟨b4, 0, none⟩) F.len F.len))) (go_keep)
      (first
      | (go_at_call 8; refine (toEx_any kd sy n a cap F _ (h.below b07d) hbig).mono ?_; rintro e w8 ⟨b8, S8, rfl, hr8, hb8⟩; obtain ⟨r0, r1, r2, r3⟩ := (hX7d.below hb8).cells; obtain ⟨s0, s1, s2, s3⟩ := (hA7d.below hb8).cells)
      | (go_at_call 10; refine (eqEx_any kd sy n _ _ F kd sy n _ _ F _ (hr4.slc.below (b47d.trans (hb8.mono b47d.size))) hr8.slc).mono ?_; rintro e w9 ⟨rfl, hb9⟩; obtain ⟨t0, t1, t2, t3⟩ := ((hX7d.below hb8).below hb9).cells; obtain ⟨u0, u1, u2, u3⟩ := ((hA7d.below hb8).below hb9).cells))
    have b08 := b07d.trans (hb8.mono b07d.size)
    have b09 := b08.trans (hb9.mono b08.size)
    have b48 := b47d.trans (hb8.mono b47d.size)
    have b49 := b48.trans (hb9.mono b48.size)
    have b79 : Below w7.heap.size w7 w9 := (Below.refl w7.heap.size w7).drew.trans (hb8.trans (hb9.mono hb8.size))
    have hA9 := hA7.below b79
    have hX9 := hX7.below b79
    have hG9 := hG7.below b79
    have hW9 := hW7.below b79
    clear p0 p1 p2 p3 q0 q1 q2 q3
    obtain ⟨T, hT4, hTn, hTb⟩ := hr4.at
    have hT9 := hT4.below b49
    obtain ⟨q0, q1, q2, q3⟩ := hX9.cells
    go_wp2_with fail
    refine (markEx_any kd sy n _ _ F T 1 _ hT9 hTn (by omega) (by omega) hbig hr4.len).mono ?_
    rintro e w10 ⟨rfl, hT10, ht10⟩
    have s34 := hb4.size
    have s45 := hb5.size
    have hTw : ∀ x ∈ T, w.heap.size ≤ x := fun x hx => by have := (hTb x hx).1; have := b03.size; omega
    have b910 : Below w.heap.size w9 w10 := ht10.below hTw b09.size
    have b010 := b09.trans b910
    have hA10 := hA9.touch ht10 (fun e => by have := (hTb _ e).1; have := hA3.lt; omega)
    have hW10 := hW9.touch ht10 (fun x hx e => by have := (hTb _ e).1; have := hWlt x hx; omega)
    have hG10 := hG9.touch ht10 (fun x hx e => by have := (hTb _ e).2; have := hG6.ge x hx; omega)
    clear q0 q1 q2 q3
    have hk1 : ¬ ((1 : Int) + 3 * (F.size : Int) < 0) := by omega
    have hkb : decide ((1 : Int) + 3 * (F.size : Int) < 0) = false := by simp; omega
    obtain ⟨K, hK⟩ : ∃ K : Int, 1 + 3 * (F.size : Int) = K := ⟨_, rfl⟩
    rw [hK] at hk1 hkb
    rw [hK]
    go_wp2_with fail
    refine (eqIntS_any _ _ _ _ L L _ hG10.ints hW10.ints).mono ?_
    rintro e w11 ⟨rfl, hb11⟩
    have b011 := b010.trans (hb11.mono b010.size)
    have hA11 := hA10.below hb11
    have hW11 := hW10.below hb11
    have hG11 := hG10.below hb11
    go_wp2_with fail
    refine (markIntS_any _ ag capg L 1 _ hG11 (by omega) (by omega) (by omega)).mono ?_
    rintro e w12 ⟨rfl, hM12, hg12⟩
    have b1112 := iMark_below (B' := w5.heap.size) hG11 hg12 (Nat.le_refl _) (by have := hb6.size; have := hb7.size; have := b79.size; have := ht10.size; have := hb11.size; omega)
    have s05 := b05.size
    have b012 := b011.trans (b1112.mono s05)
    have hA12 : Box4 w12 w.heap.size (.int .i64 kd) (.int .i64 sy) (.int .i64 n) (.slice a F.len cap) := hA11.lower (by have := hA5.lt; omega) b1112
    have hW12 : Ints w12 aw L := hW11.ints.lower (fun x hx _ => by have := hWlt x hx; omega) b1112
    go_wp2_with fail
    refine (heldIntS_any ag capg L.length 1 _ hM12.ints (by omega) (by omega) (by omega)).mono ?_
    rintro e w12' ⟨rfl, e12⟩
    rw [e12]
    clear e12
    obtain ⟨p0, p1, p2, p3⟩ := hA12.cells
    have hmne : ((1 : Int) + (L.length : Int) != 1 + (L.length : Int)) = false := by simp
    go_wp2_with fail
    refine (toEx_any kd sy n a cap F _ (h.below b012) hbig).mono ?_
    rintro e w13 ⟨b13, S13, rfl, hr13, hb13⟩
    have b013 := b012.trans (hb13.mono b012.size)
    clear p0 p1 p2 p3
    go_wp2_with fail
    refine (himpl b13 w13 (hE.below b013) hr13.slc).mono ?_
    rintro e w14 ⟨ah, caph, rfl, hH14, _, hb14⟩
    have b014 := b013.trans (hb14.mono b013.size)
    have b1214 := hb13.trans (hb14.mono hb13.size)
    have hW14 := hW12.below b1214
    have hM14 := hM12.below b1214
    go_wp2_with fail
    refine (eqIntS_any _ _ _ _ L L _ hH14.ints hW14).mono ?_
    rintro e w15 ⟨rfl, hb15⟩
    have b015 := b014.trans (hb15.mono b014.size)
    have hM15 := hM14.below hb15
    go_wp2_with fail
    refine (heldIntS_any ag capg L.length 1 _ hM15.ints (by omega) (by omega) (by omega)).mono ?_
    rintro e w15' ⟨rfl, e15⟩
    rw [e15]
    clear e15
    go_wp2
    go_ret
    exact ⟨rfl, b015⟩
  · have hif : szLeft 1048576 F.size = -1 := if_pos (by omega)
    obtain ⟨p0, p1, p2, p3⟩ := hA0.cells
    go_enter Tryd.func5, Tryd.ntmps5
    go_wp2_with fail
    refine (szEx_any kd sy n a cap F _ _ (h.below b00) (by omega) (by omega)).mono ?_
    rintro e w1 ⟨rfl, hb1⟩
    rw [hif]
    clear hif
    go_wp2
    go_ret
    exact ⟨rfl, b00.trans (hb1.mono b00.size)⟩

theorem globErr : Tryd.prog.globalNamed "loop.example/bellman/impl.errExNone" = some 0 := by kernel_rfl
theorem typeErr : (Tryd.prog.globals[0]?).map (·.type) = some 75 := by kernel_rfl
theorem cellsErr : Tryd.prog.cellsOf 110 = 1 := by kernel_rfl
theorem cellsStr : Tryd.prog.cellsOf 9 = 1 := by kernel_rfl
theorem starErr : "*" ++ "errors.errorString" = "*errors.errorString" := by decide
theorem rowErr (u : TypeId) (h : Tryd.prog.typeName? 3 u = some "*errors.errorString") : u = 91 :=
  typeName_ptr_named (nm := "errors.errorString") (by rw [starErr]; kernel_rfl) (by kernel_rfl) (by decide) u (by rw [starErr]; exact h)
/-- The sentinel is an interface value that holds something. -/
theorem sentinel {W : World} (h : laidMetH Tryd.prog Rows.fnExactExSymsRow.laid W) : ∃ a, W.var? Tryd.prog "loop.example/bellman/impl.errExNone" = some #[.iface 91 (.pointer (some a))] := by
  have h1 := h.filter (fun x => x.1 == "loop.example/bellman/impl.errExNone")
  have e : Rows.fnExactExSymsRow.laid.filter (fun x => x.1 == "loop.example/bellman/impl.errExNone") = [("loop.example/bellman/impl.errExNone", Rows.laid_loop_example_bellman_impl_errExNone)] := by kernel_rfl
  rw [e, Go.MakeChecks.laidMetH_plain _ _ _ (by kernel_rfl)] at h1
  obtain ⟨ps, ⟨g0, t0, cs0, f0, p0, q0, hg0, ht0, hv0, hd0, hq, e0⟩, hnd, hrows⟩ := h1
  obtain rfl := Option.some.inj (globErr.symm.trans hg0)
  obtain rfl := Option.some.inj (typeErr.symm.trans ht0)
  subst e0
  obtain ⟨l0⟩ := cs0
  have ok0 : ∀ u v, l0 = [.iface u v] → Value.okWide Tryd.prog W .any 0 u v := fun u v e => by
    subst e
    exact (hrows 0 0 (by simp [MemPlace.row])).2 u v (by simpa using World.var?_cell hg0 hv0 0)
  obtain ⟨a0, s0, rfl, _, _, _, _⟩ := errorString_of_trod Tryd.underlying75 rowErr Tryd.underlying91 Tryd.underlying110 rfl rfl Tryd.underlying9 cellsErr cellsStr hd0 ok0
  exact ⟨a0, hv0⟩
theorem errAt {W : World} {a : Addr} (h : W.var? Tryd.prog "loop.example/bellman/impl.errExNone" = some #[.iface 91 (.pointer (some a))]) : ErrAt W 91 (.pointer (some a)) := by
  have := World.var?_cell globErr h 0
  simpa [ErrAt] using this
theorem var_below {W W' : World} {cs : Array Value} (h : W.var? Tryd.prog "loop.example/bellman/impl.errExNone" = some cs) (hb : Below W.heap.size W W') : W'.var? Tryd.prog "loop.example/bellman/impl.errExNone" = some cs := by
  unfold World.var? at h ⊢
  simp only [globErr, Option.bind_some] at h ⊢
  have hlt : 0 < W.heap.size := by
    rcases Nat.lt_or_ge 0 W.heap.size with h' | h'
    · exact h'
    · simp [Array.getElem?_eq_none h'] at h
  rw [hb.block _ hlt]
  exact h
theorem vars_read {H : Type} (enc : TypeId × Value → H) {W : World} {a : Addr} (h0 : W.var? Tryd.prog "loop.example/bellman/impl.errExNone" = some #[.iface 91 (.pointer (some a))]) (sp : Nat → Bool) :
    DataW.TrodVars enc Tryd.prog W sp ["loop.example/bellman/impl.errExNone"] [tok enc (.iface 91 (.pointer (some a)))] [.cell 0 0] :=
  ⟨0, 75, #[.iface 91 (.pointer (some a))], 1, [], [], globErr, typeErr, h0, trod_held Tryd.underlying75 (show IsIface (.iface 91 (.pointer (some a))) from trivial) 0, rfl, rfl⟩

theorem contract (H : Type) (enc : TypeId × Value → H) (W : World) (base : Nat) (args : Array Value) (ds gs : List (DataW H)) (before : List MemPlace)
    (hval : ∀ (j : Nat) t v, Tryd.f5.params[j]? = some t → args[j]? = some v → Value.okWide Tryd.prog W .any base t v)
    (hW : DataW.Whole enc Tryd.prog Tryd.f5.params.toList Rows.fnExactExSymsSpec.vars false W args.toList ds gs before) (hL : laidMetH Tryd.prog Rows.fnExactExSymsRow.laid W) :
    Calls Tryd.prog 5 args W fun e W' => ∃ v, e = .returned v ∧ Rows.fnExactExSymsSpec.post enc Tryd.prog Tryd.f5 false true false false W args v W' := by
  have hW' := hW
  obtain ⟨p, q, hA0, hV0, rfl, hfz, hnd⟩ := hW
  have hA : DataW.TrodAll enc Tryd.prog W 0 (fun _ => true) true Tryd.f5.params.toList args.toList ds p := hA0
  have hV : DataW.TrodVars enc Tryd.prog W (fun _ => true) ["loop.example/bellman/impl.errExNone"] gs q := hV0
  rw [Tryd.params5] at hA hval
  obtain ⟨v0, vs0, d0, ds0, p0, q0, hargs, rfl, rfl, h0, r0⟩ := trodAll_cons hA
  obtain ⟨rfl, rfl, rfl⟩ := trodAll_nil r0
  obtain rfl : args = #[v0] := by cases args; simp_all
  obtain ⟨ea, hva⟩ := sentinel hL
  obtain ⟨rfl, rfl⟩ := hV.unique (vars_read enc hva _)
  have k0 := h0
  have lt0 : ∀ x ∈ p0, x.block < W.heap.size := by obtain ⟨m, hm⟩ := k0; exact DataW.trod_lt m _ _ _ hm
  obtain ⟨kd0, sy0, n0, a0, cap0, F0, rfl, e0⟩ := open_ex (hval 0 24 v0 rfl rfl) h0
  clear hA0 hV0
  refine (walk kd0 sy0 n0 a0 cap0 F0 W 91 (.pointer (some ea)) e0 (errAt hva)).mono fun e W' ⟨he, bel⟩ => ?_
  subst he
  exact ⟨_, rfl, _, _, _, [], _, [.cell 0 0], hW', trodAll_mk1 (shut_bool Tryd.underlying4 _), (trodAll_cons_mk (Below.trod laidOut (by kernel_rfl) (of_decide_eq_true (by kernel_rfl)) k0 bel lt0) trodAll_mk0), vars_read enc (var_below hva bel) _, bel.frame _, fun h => by cases h⟩

noncomputable def low : Nat := (World.holding Tryd.prog default ⟨#[], #[], []⟩).heap.size
theorem laid_met (os : Os) : laidMet Tryd.prog Rows.fnExactExSymsRow.laid (({ World.holding Tryd.prog os ⟨#[.cells #[.string { data := #[110, 111, 116, 104, 105, 110, 103, 32, 116, 104, 97, 116, 32, 105, 115, 32, 108, 111, 111, 107, 101, 100, 32, 102, 111, 114] }] 110], #[], []⟩ with heap := ((World.holding Tryd.prog os ⟨#[.cells #[.string { data := #[110, 111, 116, 104, 105, 110, 103, 32, 116, 104, 97, 116, 32, 105, 115, 32, 108, 111, 111, 107, 101, 100, 32, 102, 111, 114] }] 110], #[], []⟩).heap.modify 0 fun
      | .cells _ t frozen => .cells #[.iface 91 (.pointer (some ⟨low, 0, none⟩))] t frozen
      | o => o) } : World).forCall (fun _ _ => 0) ⟨#[], #[.agg #[.int .i64 0, .int .i64 0, .int .i64 0, .slice none 0 0]], []⟩).memory :=
  laidMet_of_run' 8 (by kernel_rfl) (by kernel_rfl)
theorem reads (os : Os) {H : Type} (enc : TypeId × Value → H) : DataW.whole enc Tryd.prog (({ World.holding Tryd.prog os ⟨#[.cells #[.string { data := #[110, 111, 116, 104, 105, 110, 103, 32, 116, 104, 97, 116, 32, 105, 115, 32, 108, 111, 111, 107, 101, 100, 32, 102, 111, 114] }] 110], #[], []⟩ with heap := ((World.holding Tryd.prog os ⟨#[.cells #[.string { data := #[110, 111, 116, 104, 105, 110, 103, 32, 116, 104, 97, 116, 32, 105, 115, 32, 108, 111, 111, 107, 101, 100, 32, 102, 111, 114] }] 110], #[], []⟩).heap.modify 0 fun
      | .cells _ t frozen => .cells #[.iface 91 (.pointer (some ⟨low, 0, none⟩))] t frozen
      | o => o) } : World).forCall (fun _ _ => 0) ⟨#[], #[.agg #[.int .i64 0, .int .i64 0, .int .i64 0, .slice none 0 0]], []⟩).memory Tryd.f5.params.toList Rows.fnExactExSymsSpec.vars false (#[.agg #[.int .i64 0, .int .i64 0, .int .i64 0, .slice none 0 0]] : Array Value).toList 8 = some ([.agg [.lit (.int .i64 0), .lit (.int .i64 0), .lit (.int .i64 0), .nil]], [tok enc (.iface 91 (.pointer (some ⟨low, 0, none⟩)))], [.cell 0 0]) := by kernel_rfl

set_option maxRecDepth 100000 in
theorem lifted (os : Os) (started : os.Started) (H : Type) (enc : TypeId × Value → H) (F : Stop.Interp) :
    ReturnsInHanded {} Tryd.checked os 5 .any ((OpenSpec.ofChange Rows.fnExactExSymsSpec).preRow enc Tryd.prog Tryd.f5 Rows.fnExactExSymsRow.domain false Rows.fnExactExSymsRow.laid) (((OpenSpec.ofChange Rows.fnExactExSymsSpec).at F).post enc Tryd.prog Tryd.f5 false true false false) := by
  refine returnsInHanded_of_row (C := Tryd.checked) (s := OpenSpec.ofChange Rows.fnExactExSymsSpec) own started (by kernel_rfl) Tryd.func5
    (witness_row_at (enc := enc) (C := Tryd.checked) false ({ World.holding Tryd.prog os ⟨#[.cells #[.string { data := #[110, 111, 116, 104, 105, 110, 103, 32, 116, 104, 97, 116, 32, 105, 115, 32, 108, 111, 111, 107, 101, 100, 32, 102, 111, 114] }] 110], #[], []⟩ with heap := ((World.holding Tryd.prog os ⟨#[.cells #[.string { data := #[110, 111, 116, 104, 105, 110, 103, 32, 116, 104, 97, 116, 32, 105, 115, 32, 108, 111, 111, 107, 101, 100, 32, 102, 111, 114] }] 110], #[], []⟩).heap.modify 0 fun
      | .cells _ t frozen => .cells #[.iface 91 (.pointer (some ⟨low, 0, none⟩))] t frozen
      | o => o) } : World) #[.agg #[.int .i64 0, .int .i64 0, .int .i64 0, .slice none 0 0]] rfl (by kernel_rfl) (by kernel_rfl) (by kernel_rfl)
      (OpenSpec.preRow_of_cond 8 (reads os enc) (by kernel_rfl) (fun k hk => by cases hk) (by kernel_rfl) (laid_met os))) ?_
  intro W base args ds gs before hval hW _ _ _ hL _ _
  exact contract H enc W base args ds gs before hval hW hL

theorem said : Rows.FnExactExSymsSaid :=
  OpenClaim.holds_of_cond 5 Tryd.f5 rfl rfl rfl rfl rfl rfl rfl ⟨rfl, rfl, rfl, rfl, rfl⟩ rfl rfl rfl rfl rfl (by kernel_rfl) Tryd.func5 (by kernel_rfl)
    (of_decide_eq_true (by kernel_rfl)) (by unfold Func.isWrapper; first | (rw [if_pos (by decide +kernel)]; kernel_rfl) | (rw [if_neg (by decide +kernel)]; exact ⟨rfl, rfl⟩))
    (fun os started H enc _ F => by rw [OpenClaim.pre_eq_preRow]; exact lifted os started H enc F)

theorem plain (f : FuncId) (fn : Func) (hf : Tryd.pinned.checked.prog.funcNamed "loop.example/bellman/laws.FnExactExSyms" = some f) (hfn : Tryd.pinned.checked.prog.funcs[f]? = some fn) :
    false = Tryd.pinned.checked.prog.looks [] ∧ ∀ (j : Nat) t, fn.params[j]? = some t → Tryd.pinned.checked.prog.wantsStandIn t = false := by
  obtain rfl : f = 5 := Option.some.inj ((show Tryd.prog.funcNamed "loop.example/bellman/laws.FnExactExSyms" = some 5 by kernel_rfl).symm.trans hf) |>.symm
  obtain rfl : fn = Tryd.f5 := (Option.some.inj (Tryd.func5.symm.trans hfn)).symm
  refine ⟨by kernel_rfl, fun j t ht => ?_⟩
  rw [Tryd.params5] at ht
  have hm := Array.mem_of_getElem? ht
  simp only [List.mem_toArray, List.mem_cons, List.not_mem_nil, or_false] at hm
  rcases hm with rfl
  · exact (show Tryd.prog.wantsStandIn 24 = false by kernel_rfl)

theorem card : Rows.FnExactExSymsCardSaid :=
  Claim7.holds_tied_plain_at .later [] _ _ _ _ said (fun _ h => by cases h) (by kernel_rfl) (fun _ h => by cases h) fnExactExSyms_row_tie rfl ⟨rfl, rfl⟩ (by kernel_rfl) rfl plain (by kernel_rfl)
end Go.Proofs.YtibolmlnbojokaaDoor.fnExactExSyms
namespace Go.Proofs.YtibolmlnbojokaaDoor
theorem fnExactExSyms_holds : Rows.FnExactExSymsCardSaid := fnExactExSyms.card
#print axioms fnExactExSyms_holds
end Go.Proofs.YtibolmlnbojokaaDoor

