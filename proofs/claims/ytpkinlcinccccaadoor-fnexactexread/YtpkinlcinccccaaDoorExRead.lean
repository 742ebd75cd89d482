/- At every text the program's ExRead answers as the specification's, in memory of its own. The error that the program's panics bear and the library's tables are as their texts lay them. -/
import Derived.Test.YtpkinlcinccccaaDoorExRdC
import Derived.Test.YtpkinlcinccccaaDoorCards
import Derived.Test.YtpkinlcinccccaaDoorTie
import Derived.Deep.DeepHandedRow
import Derived.LaidLaws
import Derived.MakeChecks
import Derived.Stop.ErrReads
import Derived.RowKitTokens
import Derived.Shelf.Vars
namespace Go.Proofs.YtpkinlcinccccaaDoor.fnExactExRead
open Go.ChangeShapes Go.WideShapes Go.ChangeAt Go.RowKit
open Go.ChangeMaps (open_string)
set_option linter.unusedVariables false
set_option maxRecDepth 4000

theorem xans_size {t : List UInt8} {ok : Bool} {kd sy n : Int} {F : Fo} (h : XAns t ok kd sy n F) : F.size ≤ 12 := by
  rcases h with ⟨_, _, ho, _⟩ | ⟨_, ⟨_, _, _, rfl⟩, _⟩
  · have := (okX_form ho).2; omega
  · simp [Fo.size]
theorem slc_later {w1 v : World} {lo : Nat} {a : Option Addr} {F : Fo} (h : SlcIn w1 lo w1.heap.size a F) (hb : Below w1.heap.size w1 v) : Slc v a F := h v hb.size fun b _ hb' => hb.block b hb'
theorem PBox.lower {w w' : World} {b B : Nat} {kd sy n : Int} {v : Value} (h : PBox w b kd sy n v) (hB : b < B) (hb : Below B w w') : PBox w' b kd sy n v := ⟨(hb.block b hB).trans h.row⟩
theorem PBox.touch {w w' : World} {b : Nat} {S : List Nat} {kd sy n : Int} {v : Value} (h : PBox w b kd sy n v) (ht : Touch S w w') (hS : b ∉ S) : PBox w' b kd sy n v := ⟨(ht.block b h.lt hS).trans h.row⟩

set_option maxHeartbeats 2000000 in
theorem walk (s : ByteArray) (w : World) (t : TypeId) (v : Value) (hsz : s.size ≤ maxLen) (hE : ErrAt w t v) (hM : MaxAt w) :
    Calls Tryd.prog 4 #[.string s] w fun e w' => e = .returned (.bool true) ∧ Below w.heap.size w w' := by
  unfold maxLen at hsz
  by_cases hbig : (1048576 : Int) < (s.size : Int)
  · go_enter Tryd.func4, Tryd.ntmps4
    go_wp2
    go_ret
    exact ⟨rfl, Below.refl _ _⟩
  · have hs : s.size ≤ 1048576 := by omega
    go_enter Tryd.func4, Tryd.ntmps4
    go_wp2_with fail
    refine (specExRead_any s _ hs).mono ?_
    rintro e w1 ⟨ok, kd, sy, n, aw, cw, F, rfl, hb1, hSw, HA⟩
    obtain ⟨u1, hu1⟩ : ∃ u1, w1.alloc (.cells #[.int .i64 kd, .int .i64 sy, .int .i64 n, .slice aw F.len cw] 29) = u1 := ⟨_, rfl⟩
    have hbu1 : Below w1.heap.size w1 u1 := by rw [← hu1]; exact below_new _ _
    have hPw : PBox u1 w1.heap.size kd sy n (.slice aw F.len cw) := by rw [← hu1]; exact ⟨heap_alloc_new _ _⟩
    have hsu1 : w1.heap.size < u1.heap.size := hPw.lt
    have bu1 := hb1.trans (hbu1.mono hb1.size)
    have hF12 := xans_size HA.out
    go_wp2_with fail
    refine (implExRead_any s _ t v (hE.below bu1) (hM.below bu1) hs).mono ?_
    rintro e w2 ⟨ok', kd', sy', n', ag, cg, F', S, rfl, hb2, hO, hnd, hSS, hF3, HA'⟩
    obtain ⟨rfl, rfl, rfl, rfl, rfl⟩ := xans_one HA.out HA'.out
    obtain ⟨u2, hu2⟩ : ∃ u2, w2.alloc (.cells #[.int .i64 kd, .int .i64 sy, .int .i64 n, .slice ag F.len cg] 29) = u2 := ⟨_, rfl⟩
    have hbu2 : Below w2.heap.size w2 u2 := by rw [← hu2]; exact below_new _ _
    have hPg : PBox u2 w2.heap.size kd sy n (.slice ag F.len cg) := by rw [← hu2]; exact ⟨heap_alloc_new _ _⟩
    have b12 : Below w1.heap.size w1 u2 := (hbu1.trans (hb2.mono hbu1.size)).trans (hbu2.mono (Nat.le_trans hbu1.size hb2.size))
    have bu2 := hb1.trans (b12.mono hb1.size)
    have hPw2 := (hPw.below hb2).below hbu2
    have hO2 := hO.below hbu2
    have hl3 : F.len ≤ maxLen := by unfold maxLen; omega
    have hself := eqX_self kd sy n F
    obtain ⟨p0, p1, p2, p3⟩ := hPw2.cells
    obtain ⟨q0, q1, q2, q3⟩ := hPg.cells
    go_wp2_with fail
    refine (eqEx_any kd sy n ag cg F kd sy n aw cw F _ (hO2.slc hl3) (slc_later hSw b12)).mono ?_
    rintro e w3 ⟨rfl, hb3⟩
    have b13 := b12.trans (hb3.mono b12.size)
    have bu3 := hb1.trans (b13.mono hb1.size)
    have hPw3 := hPw2.below hb3
    have hPg3 := hPg.below hb3
    have hO3 := hO2.below hb3
    clear p0 p1 p2 p3 q0 q1 q2 q3
    obtain ⟨p0, p1, p2, p3⟩ := hPw3.cells
    obtain ⟨q0, q1, q2, q3⟩ := hPg3.cells
    go_wp2_with fail
    refine (markEx_any kd sy n ag cg F S 1 w3 hO3 hnd (by omega) (by omega) (by omega) hl3).mono ?_
    rintro e w4 ⟨rfl, hO4, ht4⟩
    have hs23 : w2.heap.size ≤ w3.heap.size := Nat.le_trans hbu2.size hb3.size
    have b34 : Below u1.heap.size w3 w4 := ht4.below (fun x hx => (hSS x hx).1) (Nat.le_trans hb2.size hs23)
    have b14 : Below w1.heap.size w1 w4 := b13.trans (b34.mono hbu1.size)
    have bu4 := hb1.trans (b14.mono hb1.size)
    have hPw4 := PBox.lower hPw3 hsu1 b34
    have hPg4 := PBox.touch hPg3 ht4 (fun h => by have := (hSS _ h).2; omega)
    have hSl4 : Slc w4 ag (markF 1 F) := hO4.slc (by rw [markF_len]; exact hl3)
    have hq0 : (0 : Int) ≤ 1 + 3 * (F.size : Int) := by omega
    clear p0 p1 p2 p3 q0 q1 q2 q3
    obtain ⟨p0, p1, p2, p3⟩ := hPw4.cells
    obtain ⟨q0, q1, q2, q3⟩ := hPg4.cells
    go_wp2_with fail
    refine (heldEx_any kd sy n ag cg F 1 w4 hSl4 (by omega) (by omega)).mono ?_
    rintro e w5 ⟨rfl, hb5⟩
    have b15 := b14.trans (hb5.mono b14.size)
    have bu5 := hb1.trans (b15.mono hb1.size)
    have hPw5 := hPw4.below hb5
    have hPg5 := hPg4.below hb5
    have hSl5 := hSl4.below hb5
    clear p0 p1 p2 p3 q0 q1 q2 q3
    go_wp2_with fail
    refine (implExRead_any s _ t v (hE.below bu5) (hM.below bu5) hs).mono ?_
    rintro e w6 ⟨ok6, kd6, sy6, n6, ah, ch, F6, S6, rfl, hb6, hO6, hnd6, hSS6, hF6, HA6⟩
    obtain ⟨rfl, rfl, rfl, rfl, rfl⟩ := xans_one HA.out HA6.out
    obtain ⟨u6, hu6⟩ : ∃ u6, w6.alloc (.cells #[.int .i64 kd, .int .i64 sy, .int .i64 n, .slice ah F.len ch] 29) = u6 := ⟨_, rfl⟩
    have hbu6 : Below w6.heap.size w6 u6 := by rw [← hu6]; exact below_new _ _
    have hPh : PBox u6 w6.heap.size kd sy n (.slice ah F.len ch) := by rw [← hu6]; exact ⟨heap_alloc_new _ _⟩
    have b56 : Below w5.heap.size w5 u6 := hb6.trans (hbu6.mono hb6.size)
    have b16 := b15.trans (b56.mono b15.size)
    have bu6 := hb1.trans (b16.mono hb1.size)
    have hPw6 := hPw5.below b56
    have hPg6 := hPg5.below b56
    have hSl6 := hSl5.below b56
    obtain ⟨p0, p1, p2, p3⟩ := hPw6.cells
    obtain ⟨q0, q1, q2, q3⟩ := hPh.cells
    go_wp2_with fail
    refine (eqEx_any kd sy n ah ch F kd sy n aw cw F _ ((hO6.below hbu6).slc hl3) (slc_later hSw b16)).mono ?_
    rintro e w7 ⟨rfl, hb7⟩
    have bu7 := bu6.trans (hb7.mono bu6.size)
    have hPg7 := hPg6.below hb7
    clear p0 p1 p2 p3 q0 q1 q2 q3
    obtain ⟨q0, q1, q2, q3⟩ := hPg7.cells
    go_wp2_with fail
    refine (heldEx_any kd sy n ag cg F 1 w7 (hSl6.below hb7) (by omega) (by omega)).mono ?_
    rintro e w8 ⟨rfl, hb8⟩
    go_wp2
    go_ret
    exact ⟨rfl, bu7.trans (hb8.mono bu7.size)⟩

theorem globErr : Tryd.prog.globalNamed "loop.example/bellman/impl.errExNone" = some 0 := by kernel_rfl
theorem typeErr : (Tryd.prog.globals[0]?).map (·.type) = some 63 := by kernel_rfl
theorem cellsErr : Tryd.prog.cellsOf 141 = 1 := by kernel_rfl
theorem cellsStr : Tryd.prog.cellsOf 9 = 1 := by kernel_rfl
theorem starErr : "*" ++ "errors.errorString" = "*errors.errorString" := by decide
theorem rowErr (u : TypeId) (h : Tryd.prog.typeName? 3 u = some "*errors.errorString") : u = 105 :=
  typeName_ptr_named (nm := "errors.errorString") (by rw [starErr]; kernel_rfl) (by kernel_rfl) (by decide) u (by rw [starErr]; exact h)
/-- The sentinel is an interface value that holds something. -/
theorem sentinel {W : World} (h : laidMetH Tryd.prog Rows.fnExactExReadRow.laid W) : ∃ a, W.var? Tryd.prog "loop.example/bellman/impl.errExNone" = some #[.iface 105 (.pointer (some a))] := by
  have h1 := h.filter (fun x => x.1 == "loop.example/bellman/impl.errExNone")
  have e : Rows.fnExactExReadRow.laid.filter (fun x => x.1 == "loop.example/bellman/impl.errExNone") = [("loop.example/bellman/impl.errExNone", Rows.laid_loop_example_bellman_impl_errExNone)] := by kernel_rfl
  rw [e, Go.MakeChecks.laidMetH_plain _ _ _ (by kernel_rfl)] at h1
  obtain ⟨ps, ⟨g0, t0, cs0, f0, p0, q0, hg0, ht0, hv0, hd0, hq, e0⟩, hnd, hrows⟩ := h1
  obtain rfl := Option.some.inj (globErr.symm.trans hg0)
  obtain rfl := Option.some.inj (typeErr.symm.trans ht0)
  subst e0
  obtain ⟨l0⟩ := cs0
  have ok0 : ∀ u v, l0 = [.iface u v] → Value.okWide Tryd.prog W .any 0 u v := fun u v e => by
    subst e
    exact (hrows 0 0 (by simp [MemPlace.row])).2 u v (by simpa using World.var?_cell hg0 hv0 0)
  obtain ⟨a0, s0, rfl, _, _, _, _⟩ := errorString_of_trod Tryd.underlying63 rowErr Tryd.underlying105 Tryd.underlying141 rfl rfl Tryd.underlying9 cellsErr cellsStr hd0 ok0
  exact ⟨a0, hv0⟩
theorem errAt {W : World} {a : Addr} (h : W.var? Tryd.prog "loop.example/bellman/impl.errExNone" = some #[.iface 105 (.pointer (some a))]) : ErrAt W 105 (.pointer (some a)) := by
  have := World.var?_cell globErr h 0
  simpa [ErrAt] using this
theorem var_below {W W' : World} {cs : Array Value} (h : W.var? Tryd.prog "loop.example/bellman/impl.errExNone" = some cs) (hb : Below W.heap.size W W') : W'.var? Tryd.prog "loop.example/bellman/impl.errExNone" = some cs := by
  unfold World.var? at h ⊢
  simp only [globErr, Option.bind_some] at h ⊢
  have hlt : 0 < W.heap.size := by
    rcases Nat.lt_or_ge 0 W.heap.size with h' | h'
    · exact h'
    · simp [Array.getElem?_eq_none h'] at h
  rw [hb.block _ hlt]
  exact h
theorem vars_read {H : Type} (enc : TypeId × Value → H) {W : World} {a : Addr} (h0 : W.var? Tryd.prog "loop.example/bellman/impl.errExNone" = some #[.iface 105 (.pointer (some a))]) (sp : Nat → Bool) :
    DataW.TrodVars enc Tryd.prog W sp ["loop.example/bellman/impl.errExNone"] [tok enc (.iface 105 (.pointer (some a)))] [.cell 0 0] :=
  ⟨0, 63, #[.iface 105 (.pointer (some a))], 1, [], [], globErr, typeErr, h0, trod_held Tryd.underlying63 (show IsIface (.iface 105 (.pointer (some a))) from trivial) 0, rfl, rfl⟩

theorem maxAt {W : World} (h : W.ShapedOpen Tryd.prog) : MaxAt W := cell_of_shapedOpen_int (zero := #[.int .i64 0]) (t := 3) h (of_decide_eq_true (by kernel_rfl)) (by kernel_rfl) rfl (by kernel_rfl) (by kernel_rfl) Tryd.underlying3

theorem contract (H : Type) (enc : TypeId × Value → H) (W : World) (base : Nat) (args : Array Value) (ds gs : List (DataW H)) (before : List MemPlace)
    (hval : ∀ (j : Nat) t v, Tryd.f4.params[j]? = some t → args[j]? = some v → Value.okWide Tryd.prog W .any base t v)
    (hW : DataW.Whole enc Tryd.prog Tryd.f4.params.toList Rows.fnExactExReadSpec.vars false W args.toList ds gs before) (hL : laidMetH Tryd.prog Rows.fnExactExReadRow.laid W) (hSh : W.ShapedOpen Tryd.prog) :
    Calls Tryd.prog 4 args W fun e W' => ∃ v, e = .returned v ∧ Rows.fnExactExReadSpec.post enc Tryd.prog Tryd.f4 false true false false W args v W' := by
  have hW' := hW
  obtain ⟨p, q, hA0, hV0, rfl, hfz, hnd⟩ := hW
  have hA : DataW.TrodAll enc Tryd.prog W 0 (fun _ => true) true Tryd.f4.params.toList args.toList ds p := hA0
  have hV : DataW.TrodVars enc Tryd.prog W (fun _ => true) ["loop.example/bellman/impl.errExNone"] gs q := hV0
  rw [Tryd.params4] at hA hval
  obtain ⟨v0, vs0, d0, ds0, p0, q0, hargs, rfl, rfl, h0, r0⟩ := trodAll_cons hA
  obtain ⟨rfl, rfl, rfl⟩ := trodAll_nil r0
  obtain rfl : args = #[v0] := by cases args; simp_all
  obtain ⟨ea, hva⟩ := sentinel hL
  obtain ⟨rfl, rfl⟩ := hV.unique (vars_read enc hva _)
  have k0 := h0
  have lt0 : ∀ x ∈ p0, x.block < W.heap.size := by obtain ⟨m, hm⟩ := k0; exact DataW.trod_lt m _ _ _ hm
  obtain ⟨s0, rfl, _, _, hs0⟩ := open_string Tryd.underlying9 (hval 0 9 v0 rfl rfl) h0
  clear hA0 hV0
  refine (walk s0 W 105 (.pointer (some ea)) hs0 (errAt hva) (maxAt hSh)).mono fun e W' ⟨he, bel⟩ => ?_
  subst he
  exact ⟨_, rfl, _, _, _, [], _, [.cell 0 0], hW', trodAll_mk1 (shut_bool Tryd.underlying4 _), (trodAll_cons_mk (Below.trod laidOut (by kernel_rfl) (of_decide_eq_true (by kernel_rfl)) k0 bel lt0) trodAll_mk0), vars_read enc (var_below hva bel) _, bel.frame _, fun h => by cases h⟩

noncomputable def low : Nat := (World.holding Tryd.prog default ⟨#[], #[], []⟩).heap.size
theorem laid_met (os : Os) : laidMet Tryd.prog Rows.fnExactExReadRow.laid (({ World.holding Tryd.prog os ⟨#[.cells #[.string { data := #[110, 111, 116, 104, 105, 110, 103, 32, 116, 104, 97, 116, 32, 105, 115, 32, 108, 111, 111, 107, 101, 100, 32, 102, 111, 114] }] 141], #[], []⟩ with heap := ((((World.holding Tryd.prog os ⟨#[.cells #[.string { data := #[110, 111, 116, 104, 105, 110, 103, 32, 116, 104, 97, 116, 32, 105, 115, 32, 108, 111, 111, 107, 101, 100, 32, 102, 111, 114] }] 141], #[], []⟩).heap.modify 0 fun
      | .cells _ t frozen => .cells #[.iface 105 (.pointer (some ⟨low, 0, none⟩))] t frozen
      | o => o).modify 3 fun
      | .cells _ t frozen => .cells #[.int .u8 128, .int .u8 191, .int .u8 160, .int .u8 191, .int .u8 128, .int .u8 159, .int .u8 144, .int .u8 191, .int .u8 128, .int .u8 143, .int .u8 0, .int .u8 0, .int .u8 0, .int .u8 0, .int .u8 0, .int .u8 0, .int .u8 0, .int .u8 0, .int .u8 0, .int .u8 0, .int .u8 0, .int .u8 0, .int .u8 0, .int .u8 0, .int .u8 0, .int .u8 0, .int .u8 0, .int .u8 0, .int .u8 0, .int .u8 0, .int .u8 0, .int .u8 0] t frozen
      | o => o).modify 2 fun
      | .cells _ t frozen => .cells #[.int .u8 240, .int .u8 240, .int .u8 240, .int .u8 240, .int .u8 240, .int .u8 240, .int .u8 240, .int .u8 240, .int .u8 240, .int .u8 240, .int .u8 240, .int .u8 240, .int .u8 240, .int .u8 240, .int .u8 240, .int .u8 240, .int .u8 240, .int .u8 240, .int .u8 240, .int .u8 240, .int .u8 240, .int .u8 240, .int .u8 240, .int .u8 240, .int .u8 240, .int .u8 240, .int .u8 240, .int .u8 240, .int .u8 240, .int .u8 240, .int .u8 240, .int .u8 240, .int .u8 240, .int .u8 240, .int .u8 240, .int .u8 240, .int .u8 240, .int .u8 240, .int .u8 240, .int .u8 240, .int .u8 240, .int .u8 240, .int .u8 240, .int .u8 240, .int .u8 240, .int .u8 240, .int .u8 240, .int .u8 240, .int .u8 240, .int .u8 240, .int .u8 240, .int .u8 240, .int .u8 240, .int .u8 240, .int .u8 240, .int .u8 240, .int .u8 240, .int .u8 240, .int .u8 240, .int .u8 240, .int .u8 240, .int .u8 240, .int .u8 240, .int .u8 240, .int .u8 240, .int .u8 240, .int .u8 240, .int .u8 240, .int .u8 240, .int .u8 240, .int .u8 240, .int .u8 240, .int .u8 240, .int .u8 240, .int .u8 240, .int .u8 240, .int .u8 240, .int .u8 240, .int .u8 240, .int .u8 240, .int .u8 240, .int .u8 240, .int .u8 240, .int .u8 240, .int .u8 240, .int .u8 240, .int .u8 240, .int .u8 240, .int .u8 240, .int .u8 240, .int .u8 240, .int .u8 240, .int .u8 240, .int .u8 240, .int .u8 240, .int .u8 240, .int .u8 240, .int .u8 240, .int .u8 240, .int .u8 240, .int .u8 240, .int .u8 240, .int .u8 240, .int .u8 240, .int .u8 240, .int .u8 240, .int .u8 240, .int .u8 240, .int .u8 240, .int .u8 240, .int .u8 240, .int .u8 240, .int .u8 240, .int .u8 240, .int .u8 240, .int .u8 240, .int .u8 240, .int .u8 240, .int .u8 240, .int .u8 240, .int .u8 240, .int .u8 240, .int .u8 240, .int .u8 240, .int .u8 240, .int .u8 240, .int .u8 240, .int .u8 240, .int .u8 241, .int .u8 241, .int .u8 241, .int .u8 241, .int .u8 241, .int .u8 241, .int .u8 241, .int .u8 241, .int .u8 241, .int .u8 241, .int .u8 241, .int .u8 241, .int .u8 241, .int .u8 241, .int .u8 241, .int .u8 241, .int .u8 241, .int .u8 241, .int .u8 241, .int .u8 241, .int .u8 241, .int .u8 241, .int .u8 241, .int .u8 241, .int .u8 241, .int .u8 241, .int .u8 241, .int .u8 241, .int .u8 241, .int .u8 241, .int .u8 241, .int .u8 241, .int .u8 241, .int .u8 241, .int .u8 241, .int .u8 241, .int .u8 241, .int .u8 241, .int .u8 241, .int .u8 241, .int .u8 241, .int .u8 241, .int .u8 241, .int .u8 241, .int .u8 241, .int .u8 241, .int .u8 241, .int .u8 241, .int .u8 241, .int .u8 241, .int .u8 241, .int .u8 241, .int .u8 241, .int .u8 241, .int .u8 241, .int .u8 241, .int .u8 241, .int .u8 241, .int .u8 241, .int .u8 241, .int .u8 241, .int .u8 241, .int .u8 241, .int .u8 241, .int .u8 241, .int .u8 241, .int .u8 2, .int .u8 2, .int .u8 2, .int .u8 2, .int .u8 2, .int .u8 2, .int .u8 2, .int .u8 2, .int .u8 2, .int .u8 2, .int .u8 2, .int .u8 2, .int .u8 2, .int .u8 2, .int .u8 2, .int .u8 2, .int .u8 2, .int .u8 2, .int .u8 2, .int .u8 2, .int .u8 2, .int .u8 2, .int .u8 2, .int .u8 2, .int .u8 2, .int .u8 2, .int .u8 2, .int .u8 2, .int .u8 2, .int .u8 2, .int .u8 19, .int .u8 3, .int .u8 3, .int .u8 3, .int .u8 3, .int .u8 3, .int .u8 3, .int .u8 3, .int .u8 3, .int .u8 3, .int .u8 3, .int .u8 3, .int .u8 3, .int .u8 35, .int .u8 3, .int .u8 3, .int .u8 52, .int .u8 4, .int .u8 4, .int .u8 4, .int .u8 68, .int .u8 241, .int .u8 241, .int .u8 241, .int .u8 241, .int .u8 241, .int .u8 241, .int .u8 241, .int .u8 241, .int .u8 241, .int .u8 241, .int .u8 241] t frozen
      | o => o) } : World).forCall (fun _ _ => 0) ⟨#[], #[.string ByteArray.empty], []⟩).memory :=
  laidMet_of_run' 8 (by kernel_rfl) (by kernel_rfl)
theorem reads (os : Os) {H : Type} (enc : TypeId × Value → H) : DataW.whole enc Tryd.prog (({ World.holding Tryd.prog os ⟨#[.cells #[.string { data := #[110, 111, 116, 104, 105, 110, 103, 32, 116, 104, 97, 116, 32, 105, 115, 32, 108, 111, 111, 107, 101, 100, 32, 102, 111, 114] }] 141], #[], []⟩ with heap := ((((World.holding Tryd.prog os ⟨#[.cells #[.string { data := #[110, 111, 116, 104, 105, 110, 103, 32, 116, 104, 97, 116, 32, 105, 115, 32, 108, 111, 111, 107, 101, 100, 32, 102, 111, 114] }] 141], #[], []⟩).heap.modify 0 fun
      | .cells _ t frozen => .cells #[.iface 105 (.pointer (some ⟨low, 0, none⟩))] t frozen
      | o => o).modify 3 fun
      | .cells _ t frozen => .cells #[.int .u8 128, .int .u8 191, .int .u8 160, .int .u8 191, .int .u8 128, .int .u8 159, .int .u8 144, .int .u8 191, .int .u8 128, .int .u8 143, .int .u8 0, .int .u8 0, .int .u8 0, .int .u8 0, .int .u8 0, .int .u8 0, .int .u8 0, .int .u8 0, .int .u8 0, .int .u8 0, .int .u8 0, .int .u8 0, .int .u8 0, .int .u8 0, .int .u8 0, .int .u8 0, .int .u8 0, .int .u8 0, .int .u8 0, .int .u8 0, .int .u8 0, .int .u8 0] t frozen
      | o => o).modify 2 fun
      | .cells _ t frozen => .cells #[.int .u8 240, .int .u8 240, .int .u8 240, .int .u8 240, .int .u8 240, .int .u8 240, .int .u8 240, .int .u8 240, .int .u8 240, .int .u8 240, .int .u8 240, .int .u8 240, .int .u8 240, .int .u8 240, .int .u8 240, .int .u8 240, .int .u8 240, .int .u8 240, .int .u8 240, .int .u8 240, .int .u8 240, .int .u8 240, .int .u8 240, .int .u8 240, .int .u8 240, .int .u8 240, .int .u8 240, .int .u8 240, .int .u8 240, .int .u8 240, .int .u8 240, .int .u8 240, .int .u8 240, .int .u8 240, .int .u8 240, .int .u8 240, .int .u8 240, .int .u8 240, .int .u8 240, .int .u8 240, .int .u8 240, .int .u8 240, .int .u8 240, .int .u8 240, .int .u8 240, .int .u8 240, .int .u8 240, .int .u8 240, .int .u8 240, .int .u8 240, .int .u8 240, .int .u8 240, .int .u8 240, .int .u8 240, .int .u8 240, .int .u8 240, .int .u8 240, .int .u8 240, .int .u8 240, .int .u8 240, .int .u8 240, .int .u8 240, .int .u8 240, .int .u8 240, .int .u8 240, .int .u8 240, .int .u8 240, .int .u8 240, .int .u8 240, .int .u8 240, .int .u8 240, .int .u8 240, .int .u8 240, .int .u8 240, .int .u8 240, .int .u8 240, .int .u8 240, .int .u8 240, .int .u8 240, .int .u8 240, .int .u8 240, .int .u8 240, .int .u8 240, .int .u8 240, .int .u8 240, .int .u8 240, .int .u8 240, .int .u8 240, .int .u8 240, .int .u8 240, .int .u8 240, .int .u8 240, .int .u8 240, .int .u8 240, .int .u8 240, .int .u8 240, .int .u8 240, .int .u8 240, .int .u8 240, .int .u8 240, .int .u8 240, .int .u8 240, .int .u8 240, .int .u8 240, .int .u8 240, .int .u8 240, .int .u8 240, .int .u8 240, .int .u8 240, .int .u8 240, .int .u8 240, .int .u8 240, .int .u8 240, .int .u8 240, .int .u8 240, .int .u8 240, .int .u8 240, .int .u8 240, .int .u8 240, .int .u8 240, .int .u8 240, .int .u8 240, .int .u8 240, .int .u8 240, .int .u8 240, .int .u8 240, .int .u8 240, .int .u8 240, .int .u8 241, .int .u8 241, .int .u8 241, .int .u8 241, .int .u8 241, .int .u8 241, .int .u8 241, .int .u8 241, .int .u8 241, .int .u8 241, .int .u8 241, .int .u8 241, .int .u8 241, .int .u8 241, .int .u8 241, .int .u8 241, .int .u8 241, .int .u8 241, .int .u8 241, .int .u8 241, .int .u8 241, .int .u8 241, .int .u8 241, .int .u8 241, .int .u8 241, .int .u8 241, .int .u8 241, .int .u8 241, .int .u8 241, .int .u8 241, .int .u8 241, .int .u8 241, .int .u8 241, .int .u8 241, .int .u8 241, .int .u8 241, .int .u8 241, .int .u8 241, .int .u8 241, .int .u8 241, .int .u8 241, .int .u8 241, .int .u8 241, .int .u8 241, .int .u8 241, .int .u8 241, .int .u8 241, .int .u8 241, .int .u8 241, .int .u8 241, .int .u8 241, .int .u8 241, .int .u8 241, .int .u8 241, .int .u8 241, .int .u8 241, .int .u8 241, .int .u8 241, .int .u8 241, .int .u8 241, .int .u8 241, .int .u8 241, .int .u8 241, .int .u8 241, .int .u8 241, .int .u8 241, .int .u8 2, .int .u8 2, .int .u8 2, .int .u8 2, .int .u8 2, .int .u8 2, .int .u8 2, .int .u8 2, .int .u8 2, .int .u8 2, .int .u8 2, .int .u8 2, .int .u8 2, .int .u8 2, .int .u8 2, .int .u8 2, .int .u8 2, .int .u8 2, .int .u8 2, .int .u8 2, .int .u8 2, .int .u8 2, .int .u8 2, .int .u8 2, .int .u8 2, .int .u8 2, .int .u8 2, .int .u8 2, .int .u8 2, .int .u8 2, .int .u8 19, .int .u8 3, .int .u8 3, .int .u8 3, .int .u8 3, .int .u8 3, .int .u8 3, .int .u8 3, .int .u8 3, .int .u8 3, .int .u8 3, .int .u8 3, .int .u8 3, .int .u8 35, .int .u8 3, .int .u8 3, .int .u8 52, .int .u8 4, .int .u8 4, .int .u8 4, .int .u8 68, .int .u8 241, .int .u8 241, .int .u8 241, .int .u8 241, .int .u8 241, .int .u8 241, .int .u8 241, .int .u8 241, .int .u8 241, .int .u8 241, .int .u8 241] t frozen
      | o => o) } : World).forCall (fun _ _ => 0) ⟨#[], #[.string ByteArray.empty], []⟩).memory Tryd.f4.params.toList Rows.fnExactExReadSpec.vars false (#[.string ByteArray.empty] : Array Value).toList 8 = some ([.lit (.string [])], [tok enc (.iface 105 (.pointer (some ⟨low, 0, none⟩)))], [.cell 0 0]) := by kernel_rfl

set_option maxRecDepth 100000 in
theorem lifted (os : Os) (started : os.Started) (H : Type) (enc : TypeId × Value → H) (F : Stop.Interp) :
    ReturnsInHanded {} Tryd.checked os 4 .any ((OpenSpec.ofChange Rows.fnExactExReadSpec).preRow enc Tryd.prog Tryd.f4 Rows.fnExactExReadRow.domain false Rows.fnExactExReadRow.laid) (((OpenSpec.ofChange Rows.fnExactExReadSpec).at F).post enc Tryd.prog Tryd.f4 false true false false) := by
  refine returnsInHanded_of_row (C := Tryd.checked) (s := OpenSpec.ofChange Rows.fnExactExReadSpec) own started (by kernel_rfl) Tryd.func4
    (witness_row_at (enc := enc) (C := Tryd.checked) false ({ World.holding Tryd.prog os ⟨#[.cells #[.string { data := #[110, 111, 116, 104, 105, 110, 103, 32, 116, 104, 97, 116, 32, 105, 115, 32, 108, 111, 111, 107, 101, 100, 32, 102, 111, 114] }] 141], #[], []⟩ with heap := ((((World.holding Tryd.prog os ⟨#[.cells #[.string { data := #[110, 111, 116, 104, 105, 110, 103, 32, 116, 104, 97, 116, 32, 105, 115, 32, 108, 111, 111, 107, 101, 100, 32, 102, 111, 114] }] 141], #[], []⟩).heap.modify 0 fun
      | .cells _ t frozen => .cells #[.iface 105 (.pointer (some ⟨low, 0, none⟩))] t frozen
      | o => o).modify 3 fun
      | .cells _ t frozen => .cells #[.int .u8 128, .int .u8 191, .int .u8 160, .int .u8 191, .int .u8 128, .int .u8 159, .int .u8 144, .int .u8 191, .int .u8 128, .int .u8 143, .int .u8 0, .int .u8 0, .int .u8 0, .int .u8 0, .int .u8 0, .int .u8 0, .int .u8 0, .int .u8 0, .int .u8 0, .int .u8 0, .int .u8 0, .int .u8 0, .int .u8 0, .int .u8 0, .int .u8 0, .int .u8 0, .int .u8 0, .int .u8 0, .int .u8 0, .int .u8 0, .int .u8 0, .int .u8 0] t frozen
      | o => o).modify 2 fun
      | .cells _ t frozen => .cells #[.int .u8 240, .int .u8 240, .int .u8 240, .int .u8 240, .int .u8 240, .int .u8 240, .int .u8 240, .int .u8 240, .int .u8 240, .int .u8 240, .int .u8 240, .int .u8 240, .int .u8 240, .int .u8 240, .int .u8 240, .int .u8 240, .int .u8 240, .int .u8 240, .int .u8 240, .int .u8 240, .int .u8 240, .int .u8 240, .int .u8 240, .int .u8 240, .int .u8 240, .int .u8 240, .int .u8 240, .int .u8 240, .int .u8 240, .int .u8 240, .int .u8 240, .int .u8 240, .int .u8 240, .int .u8 240, .int .u8 240, .int .u8 240, .int .u8 240, .int .u8 240, .int .u8 240, .int .u8 240, .int .u8 240, .int .u8 240, .int .u8 240, .int .u8 240, .int .u8 240, .int .u8 240, .int .u8 240, .int .u8 240, .int .u8 240, .int .u8 240, .int .u8 240, .int .u8 240, .int .u8 240, .int .u8 240, .int .u8 240, .int .u8 240, .int .u8 240, .int .u8 240, .int .u8 240, .int .u8 240, .int .u8 240, .int .u8 240, .int .u8 240, .int .u8 240, .int .u8 240, .int .u8 240, .int .u8 240, .int .u8 240, .int .u8 240, .int .u8 240, .int .u8 240, .int .u8 240, .int .u8 240, .int .u8 240, .int .u8 240, .int .u8 240, .int .u8 240, .int .u8 240, .int .u8 240, .int .u8 240, .int .u8 240, .int .u8 240, .int .u8 240, .int .u8 240, .int .u8 240, .int .u8 240, .int .u8 240, .int .u8 240, .int .u8 240, .int .u8 240, .int .u8 240, .int .u8 240, .int .u8 240, .int .u8 240, .int .u8 240, .int .u8 240, .int .u8 240, .int .u8 240, .int .u8 240, .int .u8 240, .int .u8 240, .int .u8 240, .int .u8 240, .int .u8 240, .int .u8 240, .int .u8 240, .int .u8 240, .int .u8 240, .int .u8 240, .int .u8 240, .int .u8 240, .int .u8 240, .int .u8 240, .int .u8 240, .int .u8 240, .int .u8 240, .int .u8 240, .int .u8 240, .int .u8 240, .int .u8 240, .int .u8 240, .int .u8 240, .int .u8 240, .int .u8 240, .int .u8 240, .int .u8 240, .int .u8 240, .int .u8 240, .int .u8 241, .int .u8 241, .int .u8 241, .int .u8 241, .int .u8 241, .int .u8 241, .int .u8 241, .int .u8 241, .int .u8 241, .int .u8 241, .int .u8 241, .int .u8 241, .int .u8 241, .int .u8 241, .int .u8 241, .int .u8 241, .int .u8 241, .int .u8 241, .int .u8 241, .int .u8 241, .int .u8 241, .int .u8 241, .int .u8 241, .int .u8 241, .int .u8 241, .int .u8 241, .int .u8 241, .int .u8 241, .int .u8 241, .int .u8 241, .int .u8 241, .int .u8 241, .int .u8 241, .int .u8 241, .int .u8 241, .int .u8 241, .int .u8 241, .int .u8 241, .int .u8 241, .int .u8 241, .int .u8 241, .int .u8 241, .int .u8 241, .int .u8 241, .int .u8 241, .int .u8 241, .int .u8 241, .int .u8 241, .int .u8 241, .int .u8 241, .int .u8 241, .int .u8 241, .int .u8 241, .int .u8 241, .int .u8 241, .int .u8 241, .int .u8 241, .int .u8 241, .int .u8 241, .int .u8 241, .int .u8 241, .int .u8 241, .int .u8 241, .int .u8 241, .int .u8 241, .int .u8 241, .int .u8 2, .int .u8 2, .int .u8 2, .int .u8 2, .int .u8 2, .int .u8 2, .int .u8 2, .int .u8 2, .int .u8 2, .int .u8 2, .int .u8 2, .int .u8 2, .int .u8 2, .int .u8 2, .int .u8 2, .int .u8 2, .int .u8 2, .int .u8 2, .int .u8 2, .int .u8 2, .int .u8 2, .int .u8 2, .int .u8 2, .int .u8 2, .int .u8 2, .int .u8 2, .int .u8 2, .int .u8 2, .int .u8 2, .int .u8 2, .int .u8 19, .int .u8 3, .int .u8 3, .int .u8 3, .int .u8 3, .int .u8 3, .int .u8 3, .int .u8 3, .int .u8 3, .int .u8 3, .int .u8 3, .int .u8 3, .int .u8 3, .int .u8 35, .int .u8 3, .int .u8 3, .int .u8 52, .int .u8 4, .int .u8 4, .int .u8 4, .int .u8 68, .int .u8 241, .int .u8 241, .int .u8 241, .int .u8 241, .int .u8 241, .int .u8 241, .int .u8 241, .int .u8 241, .int .u8 241, .int .u8 241, .int .u8 241] t frozen
      | o => o) } : World) #[.string ByteArray.empty] rfl (by kernel_rfl) (by kernel_rfl) (by kernel_rfl)
      (OpenSpec.preRow_of_cond 8 (reads os enc) (by kernel_rfl) (fun k hk => by cases hk) (by kernel_rfl) (laid_met os))) ?_
  intro W base args ds gs before hval hW _ _ _ hL hSh _
  exact contract H enc W base args ds gs before hval hW hL hSh

theorem said : Rows.FnExactExReadSaid :=
  OpenClaim.holds_of_cond 4 Tryd.f4 rfl rfl rfl rfl rfl rfl rfl ⟨rfl, rfl, rfl, rfl, rfl⟩ rfl rfl rfl rfl rfl (by kernel_rfl) Tryd.func4 (by kernel_rfl)
    (of_decide_eq_true (by kernel_rfl)) (by unfold Func.isWrapper; first | (rw [if_pos (by decide +kernel)]; kernel_rfl) | (rw [if_neg (by decide +kernel)]; exact ⟨rfl, rfl⟩))
    (fun os started H enc _ F => by rw [OpenClaim.pre_eq_preRow]; exact lifted os started H enc F)

theorem plain (f : FuncId) (fn : Func) (hf : Tryd.pinned.checked.prog.funcNamed "loop.example/bellman/laws.FnExactExRead" = some f) (hfn : Tryd.pinned.checked.prog.funcs[f]? = some fn) :
    false = Tryd.pinned.checked.prog.looks [] ∧ ∀ (j : Nat) t, fn.params[j]? = some t → Tryd.pinned.checked.prog.wantsStandIn t = false := by
  obtain rfl : f = 4 := Option.some.inj ((show Tryd.prog.funcNamed "loop.example/bellman/laws.FnExactExRead" = some 4 by kernel_rfl).symm.trans hf) |>.symm
  obtain rfl : fn = Tryd.f4 := (Option.some.inj (Tryd.func4.symm.trans hfn)).symm
  refine ⟨by kernel_rfl, fun j t ht => ?_⟩
  rw [Tryd.params4] at ht
  have hm := Array.mem_of_getElem? ht
  simp only [List.mem_toArray, List.mem_cons, List.not_mem_nil, or_false] at hm
  rcases hm with rfl
  · exact (show Tryd.prog.wantsStandIn 9 = false by kernel_rfl)

theorem card : Rows.FnExactExReadCardSaid :=
  Claim7.holds_tied_plain_at .later [] _ _ _ _ said (fun _ h => by cases h) (by kernel_rfl) (fun _ h => by cases h) fnExactExRead_row_tie rfl ⟨rfl, rfl⟩ (by kernel_rfl) rfl plain (by kernel_rfl)
end Go.Proofs.YtpkinlcinccccaaDoor.fnExactExRead
namespace Go.Proofs.YtpkinlcinccccaaDoor
theorem fnExactExRead_holds : Rows.FnExactExReadCardSaid := fnExactExRead.card
#print axioms fnExactExRead_holds
end Go.Proofs.YtpkinlcinccccaaDoor

