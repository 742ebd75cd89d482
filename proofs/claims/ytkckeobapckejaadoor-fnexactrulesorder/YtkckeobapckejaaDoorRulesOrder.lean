/- At every list of rules the program's RulesOrder answers as the specification's, in memory of its own; the argument reads afterwards as before. The error that the program's panics bear is as its text lays it. -/
import Derived.Test.YtkckeobapckejaaDoorRuO4
import Derived.Test.YtkckeobapckejaaDoorRuM
import Derived.Test.YtkckeobapckejaaDoorCards
import Derived.Test.YtkckeobapckejaaDoorTie
import Derived.Deep.DeepHandedRow
import Derived.LaidLaws
import Derived.MakeChecks
import Derived.Stop.ErrReads
import Derived.RowKitTokens
namespace Go.Proofs.YtkckeobapckejaaDoor.fnExactRulesOrder
open Go.ChangeShapes Go.WideShapes Go.ChangeAt Go.RowKit
set_option linter.unusedVariables false
set_option maxRecDepth 4000

theorem ordL_len (l : List Ru) : (ordL l).length ≤ 4 := by
  unfold ordL
  split
  · rename_i h; rw [ordS_len]; exact rulesOk_len h
  · simp

theorem own_keep {w w' : World} {B : Nat} {a : Option Addr} {l : List Int} (h : IntOwn w B a l) (hs : w.heap.size ≤ w'.heap.size) (hk : ∀ p, a = some p → p.block < w.heap.size → w'.heap[p.block]? = w.heap[p.block]?) : IntOwn w' B a l := by
  refine ⟨h.len, h.ge, fun hl => ?_⟩
  obtain ⟨b, rfl, hB, hlt, hr⟩ := h.row hl
  exact ⟨b, rfl, hB, Nat.lt_of_lt_of_le hlt hs, hr.of_block (hk _ rfl hlt)⟩

set_option maxHeartbeats 2000000 in
theorem walk (a : Option Addr) (cap : Nat) (l : List Ru) (w : World) (t : TypeId) (v : Value) (h : Rus w a l) (hE : ErrAt w t v) :
    Calls Tryd.prog 5 #[.slice a l.length cap] w fun e w' => e = .returned (.bool true) ∧ Below w.heap.size w w' := by
  have hlen := h.len
  by_cases hbig : rusSize l ≤ 1048576
  · have hif : szLeft 1048576 (rusSize l) = 1048576 - (rusSize l : Int) := if_neg (by omega)
    have hge : ¬ (1048576 - (rusSize l : Int) < 0) := by omega
    obtain ⟨L, hL⟩ : ∃ L, ordL l = L := ⟨_, rfl⟩
    have hLn : L.length ≤ 4 := by rw [← hL]; exact ordL_len l
    have hln : l.length ≤ 1048576 := by unfold rusSize at hbig; omega
    have hspec := fun (b : Nat) (w' : World) => specOrder_any (some ⟨b, 0, none⟩) l.length l w'
    have himpl := fun (b : Nat) (w' : World) (hE' : ErrAt w' t v) (h' : Rus w' (some ⟨b, 0, none⟩) l) => implOrder_any (some ⟨b, 0, none⟩) l.length l w' t v hE' h' (Nat.le_refl _) hln
    rw [hL] at hspec himpl
    have hmem := size_mem hbig
    have hw := rusW_le l
    have hwb : (1 : Int) + rusW l ≤ 100000000 := by unfold rusSize at hbig; omega
    have hLself := intsEqB_self L
    have hself := rusEqB_self l
    clear hw
    go_enter Tryd.func5, Tryd.ntmps5
    go_wp2_with fail
    refine (szRuleS_any _ _ l _ _ h (by omega) (by omega)).mono ?_
    rintro e w1 ⟨rfl, hb1⟩
    rw [hif]
    clear hif
    go_wp2_with fail
    refine (toRuleS_any _ _ l _ (h.below hb1) hbig).mono ?_
    rintro e w2 ⟨rfl, hR2, hb2⟩
    have b02 := hb1.trans (hb2.mono hb1.size)
    go_wp2_with fail
    refine (hspec _ w2 hR2.rus hmem).mono ?_
    rintro e w3 ⟨aw, capw, rfl, hW3, hWlt, hb3⟩
    have b03 := b02.trans (hb3.mono b02.size)
    go_wp2_with fail
    refine (toRuleS_any _ _ l _ (h.below b03) hbig).mono ?_
    rintro e w4 ⟨rfl, hR4, hb4⟩
    obtain ⟨b4, hb4e⟩ : ∃ b, w3.heap.size = b := ⟨_, rfl⟩
    have b04 := b03.trans (hb4.mono b03.size)
    have s34 : b4 ≤ w3.heap.size := by omega
    have s43 : w3.heap.size ≤ b4 := by omega
    rw [hb4e] at hR4
    have hX4 := hR4.lim
    rw [hb4e]
    clear hb4e
    go_wp2_with fail
    refine (himpl b4 w4 (hE.below b04) hX4.rus).mono ?_
    rintro e w6 ⟨ag, capg, rfl, hG6, hGlt, hb6⟩
    have b06 := b04.trans (hb6.mono b04.size)
    have b36 := hb4.trans (hb6.mono hb4.size)
    have hX6 := hX4.below hb6
    have hW6 := hW3.below b36
    go_wp2_with fail
    refine (eqIntS_any _ _ _ _ L L _ hG6.ints hW6.ints).mono ?_
    rintro e w7 ⟨rfl, hb7⟩
    have b07 := b06.trans (hb7.mono b06.size)
    have hX7 := hX6.below hb7
    have hG7 := hG6.below hb7
    have hW7 := hW6.below hb7
    go_wp2_with fail
    refine (toRuleS_any _ _ l _ (h.below b07) hbig).mono ?_
    rintro e w8 ⟨rfl, hR8, hb8⟩
    have b08 := b07.trans (hb8.mono b07.size)
    have hX8 := hX7.below hb8
    go_wp2_with fail
    refine (eqRuleS_any _ _ _ _ l l _ hX8.rus hR8.rus).mono ?_
    rintro e w9 ⟨rfl, hb9⟩
    have b09 := b08.trans (hb9.mono b08.size)
    have hX9 := hX8.below hb9
    have hG9 := (hG7.below hb8).below hb9
    have hW9 := (hW7.below hb8).below hb9
    go_wp2_with fail
    refine (markRuleS_any b4 b4 _ w4.heap.size l 1 _ hX9 (by omega) hwb hbig).mono ?_
    rintro e w10 ⟨K, rfl, hK0, hch⟩
    have s3 := hb3.size
    have s4 := hb4.size
    have s02 := b02.size
    have b910 : Below w.heap.size w9 w10 := hch.below (fun x hx => by have := hx.1; omega) b09.size
    have b010 := b09.trans b910
    have hW10 := own_keep hW9 hch.size (fun p hp hl => hch.same _ hl (fun hx => by have := hx.1; have := hWlt p hp; omega))
    have hG10 := own_keep hG9 hch.size (fun p hp hl => hch.same _ hl (fun hx => by have := hx.2; have := hG9.ge p hp; omega))
    have hk1 : ¬ (K < 0) := by omega
    have hkb : decide (K < 0) = false := decide_eq_false hk1
    go_wp2_with fail
    refine (eqIntS_any _ _ _ _ L L _ hG10.ints hW10.ints).mono ?_
    rintro e w11 ⟨rfl, hb11⟩
    have b011 := b010.trans (hb11.mono b010.size)
    have hW11 := hW10.below hb11
    have hG11 := hG10.below hb11
    go_wp2_with fail
    refine (markIntS_any _ ag capg L 1 _ hG11 (by omega) (by omega) (by omega)).mono ?_
    rintro e w12 ⟨rfl, hM12, hg12⟩
    have s49 : w4.heap.size ≤ w11.heap.size := by have := hb6.size; have := hb7.size; have := hb8.size; have := hb9.size; have := hch.size; have := hb11.size; omega
    have b1112 := iMark_below (B' := w4.heap.size) hG11 hg12 (Nat.le_refl _) s49
    have s04 := b04.size
    have b012 := b011.trans (b1112.mono s04)
    have hW12 : Ints w12 aw L := hW11.ints.lower (fun x hx _ => by have := hWlt x hx; omega) b1112
    go_wp2_with fail
    refine (heldIntS_any ag capg L.length 1 _ hM12.ints (by omega) (by omega) (by omega)).mono ?_
    rintro e w12' ⟨rfl, e12⟩
    rw [e12]
    clear e12
    have hmne : ((1 : Int) + (L.length : Int) != 1 + (L.length : Int)) = false := by simp
    go_wp2_with fail
    refine (toRuleS_any _ _ l _ (h.below b012) hbig).mono ?_
    rintro e w13 ⟨rfl, hR13, hb13⟩
    have b013 := b012.trans (hb13.mono b012.size)
    have hr13 := hR13.rus
    obtain ⟨b13, hb13e⟩ : ∃ b, w12.heap.size = b := ⟨_, rfl⟩
    rw [hb13e] at hr13
    rw [hb13e]
    clear hb13e
    go_wp2_with fail
    refine (himpl b13 w13 (hE.below b013) hr13).mono ?_
    rintro e w14 ⟨ah, caph, rfl, hH14, _, hb14⟩
    have b014 := b013.trans (hb14.mono b013.size)
    have b1214 := hb13.trans (hb14.mono hb13.size)
    have hW14 := hW12.below b1214
    have hM14 := hM12.below b1214
    go_wp2_with fail
    refine (eqIntS_any _ _ _ _ L L _ hH14.ints hW14).mono ?_
    rintro e w15 ⟨rfl, hb15⟩
    have b015 := b014.trans (hb15.mono b014.size)
    have hM15 := hM14.below hb15
    go_wp2_with fail
    refine (heldIntS_any ag capg L.length 1 _ hM15.ints (by omega) (by omega) (by omega)).mono ?_
    rintro e w15' ⟨rfl, e15⟩
    rw [e15]
    clear e15
    go_wp2
    go_ret
    exact ⟨rfl, b015⟩
  · have hif : szLeft 1048576 (rusSize l) = -1 := if_pos (by omega)
    go_enter Tryd.func5, Tryd.ntmps5
    go_wp2_with fail
    refine (szRuleS_any _ _ l _ _ h (by omega) (by omega)).mono ?_
    rintro e w1 ⟨rfl, hb1⟩
    rw [hif]
    clear hif
    go_wp2
    go_ret
    exact ⟨rfl, hb1⟩

theorem globErr : Tryd.prog.globalNamed "loop.example/bellman/impl.errExNone" = some 0 := by kernel_rfl
theorem typeErr : (Tryd.prog.globals[0]?).map (·.type) = some 81 := by kernel_rfl
theorem cellsErr : Tryd.prog.cellsOf 106 = 1 := by kernel_rfl
theorem cellsStr : Tryd.prog.cellsOf 9 = 1 := by kernel_rfl
theorem starErr : "*" ++ "errors.errorString" = "*errors.errorString" := by decide
theorem rowErr (u : TypeId) (h : Tryd.prog.typeName? 3 u = some "*errors.errorString") : u = 87 :=
  typeName_ptr_named (nm := "errors.errorString") (by rw [starErr]; kernel_rfl) (by kernel_rfl) (by decide) u (by rw [starErr]; exact h)
/-- The sentinel is an interface value that holds something. -/
theorem sentinel {W : World} (h : laidMetH Tryd.prog Rows.fnExactRulesOrderRow.laid W) : ∃ a, W.var? Tryd.prog "loop.example/bellman/impl.errExNone" = some #[.iface 87 (.pointer (some a))] := by
  have h1 := h.filter (fun x => x.1 == "loop.example/bellman/impl.errExNone")
  have e : Rows.fnExactRulesOrderRow.laid.filter (fun x => x.1 == "loop.example/bellman/impl.errExNone") = [("loop.example/bellman/impl.errExNone", Rows.laid_loop_example_bellman_impl_errExNone)] := by kernel_rfl
  rw [e, Go.MakeChecks.laidMetH_plain _ _ _ (by kernel_rfl)] at h1
  obtain ⟨ps, ⟨g0, t0, cs0, f0, p0, q0, hg0, ht0, hv0, hd0, hq, e0⟩, hnd, hrows⟩ := h1
  obtain rfl := Option.some.inj (globErr.symm.trans hg0)
  obtain rfl := Option.some.inj (typeErr.symm.trans ht0)
  subst e0
  obtain ⟨l0⟩ := cs0
  have ok0 : ∀ u v, l0 = [.iface u v] → Value.okWide Tryd.prog W .any 0 u v := fun u v e => by
    subst e
    exact (hrows 0 0 (by simp [MemPlace.row])).2 u v (by simpa using World.var?_cell hg0 hv0 0)
  obtain ⟨a0, s0, rfl, _, _, _, _⟩ := errorString_of_trod Tryd.underlying81 rowErr Tryd.underlying87 Tryd.underlying106 rfl rfl Tryd.underlying9 cellsErr cellsStr hd0 ok0
  exact ⟨a0, hv0⟩
theorem errAt {W : World} {a : Addr} (h : W.var? Tryd.prog "loop.example/bellman/impl.errExNone" = some #[.iface 87 (.pointer (some a))]) : ErrAt W 87 (.pointer (some a)) := by
  have := World.var?_cell globErr h 0
  simpa [ErrAt] using this
theorem var_below {W W' : World} {cs : Array Value} (h : W.var? Tryd.prog "loop.example/bellman/impl.errExNone" = some cs) (hb : Below W.heap.size W W') : W'.var? Tryd.prog "loop.example/bellman/impl.errExNone" = some cs := by
  unfold World.var? at h ⊢
  simp only [globErr, Option.bind_some] at h ⊢
  have hlt : 0 < W.heap.size := by
    rcases Nat.lt_or_ge 0 W.heap.size with h' | h'
    · exact h'
    · simp [Array.getElem?_eq_none h'] at h
  rw [hb.block _ hlt]
  exact h
theorem vars_read {H : Type} (enc : TypeId × Value → H) {W : World} {a : Addr} (h0 : W.var? Tryd.prog "loop.example/bellman/impl.errExNone" = some #[.iface 87 (.pointer (some a))]) (sp : Nat → Bool) :
    DataW.TrodVars enc Tryd.prog W sp ["loop.example/bellman/impl.errExNone"] [tok enc (.iface 87 (.pointer (some a)))] [.cell 0 0] :=
  ⟨0, 81, #[.iface 87 (.pointer (some a))], 1, [], [], globErr, typeErr, h0, trod_held Tryd.underlying81 (show IsIface (.iface 87 (.pointer (some a))) from trivial) 0, rfl, rfl⟩

theorem contract (H : Type) (enc : TypeId × Value → H) (W : World) (base : Nat) (args : Array Value) (ds gs : List (DataW H)) (before : List MemPlace)
    (hval : ∀ (j : Nat) t v, Tryd.f5.params[j]? = some t → args[j]? = some v → Value.okWide Tryd.prog W .any base t v)
    (hW : DataW.Whole enc Tryd.prog Tryd.f5.params.toList Rows.fnExactRulesOrderSpec.vars false W args.toList ds gs before) (hL : laidMetH Tryd.prog Rows.fnExactRulesOrderRow.laid W) :
    Calls Tryd.prog 5 args W fun e W' => ∃ v, e = .returned v ∧ Rows.fnExactRulesOrderSpec.post enc Tryd.prog Tryd.f5 false true false false W args v W' := by
  have hW' := hW
  obtain ⟨p, q, hA0, hV0, rfl, hfz, hnd⟩ := hW
  have hA : DataW.TrodAll enc Tryd.prog W 0 (fun _ => true) true Tryd.f5.params.toList args.toList ds p := hA0
  have hV : DataW.TrodVars enc Tryd.prog W (fun _ => true) ["loop.example/bellman/impl.errExNone"] gs q := hV0
  rw [Tryd.params5] at hA hval
  obtain ⟨v0, vs0, d0, ds0, p0, q0, hargs, rfl, rfl, h0, r0⟩ := trodAll_cons hA
  obtain ⟨rfl, rfl, rfl⟩ := trodAll_nil r0
  obtain rfl : args = #[v0] := by cases args; simp_all
  obtain ⟨ea, hva⟩ := sentinel hL
  obtain ⟨rfl, rfl⟩ := hV.unique (vars_read enc hva _)
  have k0 := h0
  have lt0 : ∀ x ∈ p0, x.block < W.heap.size := by obtain ⟨m, hm⟩ := k0; exact DataW.trod_lt m _ _ _ hm
  obtain ⟨a0, cap0, l0, rfl, e0⟩ := open_rules (hval 0 37 v0 rfl rfl) h0
  clear hA0 hV0
  refine (walk a0 cap0 l0 W 87 (.pointer (some ea)) e0 (errAt hva)).mono fun e W' ⟨he, bel⟩ => ?_
  subst he
  exact ⟨_, rfl, _, _, _, [], _, [.cell 0 0], hW', trodAll_mk1 (shut_bool Tryd.underlying4 _), (trodAll_cons_mk (Below.trod laidOut (by kernel_rfl) (of_decide_eq_true (by kernel_rfl)) k0 bel lt0) trodAll_mk0), vars_read enc (var_below hva bel) _, bel.frame _, fun h => by cases h⟩

noncomputable def low : Nat := (World.holding Tryd.prog default ⟨#[], #[], []⟩).heap.size
theorem laid_met (os : Os) : laidMet Tryd.prog Rows.fnExactRulesOrderRow.laid (({ World.holding Tryd.prog os ⟨#[.cells #[.string { data := #[110, 111, 116, 104, 105, 110, 103, 32, 116, 104, 97, 116, 32, 105, 115, 32, 108, 111, 111, 107, 101, 100, 32, 102, 111, 114] }] 106], #[], []⟩ with heap := ((World.holding Tryd.prog os ⟨#[.cells #[.string { data := #[110, 111, 116, 104, 105, 110, 103, 32, 116, 104, 97, 116, 32, 105, 115, 32, 108, 111, 111, 107, 101, 100, 32, 102, 111, 114] }] 106], #[], []⟩).heap.modify 0 fun
      | .cells _ t frozen => .cells #[.iface 87 (.pointer (some ⟨low, 0, none⟩))] t frozen
      | o => o) } : World).forCall (fun _ _ => 0) ⟨#[], #[.slice none 0 0], []⟩).memory :=
  laidMet_of_run' 8 (by kernel_rfl) (by kernel_rfl)
theorem reads (os : Os) {H : Type} (enc : TypeId × Value → H) : DataW.whole enc Tryd.prog (({ World.holding Tryd.prog os ⟨#[.cells #[.string { data := #[110, 111, 116, 104, 105, 110, 103, 32, 116, 104, 97, 116, 32, 105, 115, 32, 108, 111, 111, 107, 101, 100, 32, 102, 111, 114] }] 106], #[], []⟩ with heap := ((World.holding Tryd.prog os ⟨#[.cells #[.string { data := #[110, 111, 116, 104, 105, 110, 103, 32, 116, 104, 97, 116, 32, 105, 115, 32, 108, 111, 111, 107, 101, 100, 32, 102, 111, 114] }] 106], #[], []⟩).heap.modify 0 fun
      | .cells _ t frozen => .cells #[.iface 87 (.pointer (some ⟨low, 0, none⟩))] t frozen
      | o => o) } : World).forCall (fun _ _ => 0) ⟨#[], #[.slice none 0 0], []⟩).memory Tryd.f5.params.toList Rows.fnExactRulesOrderSpec.vars false (#[.slice none 0 0] : Array Value).toList 8 = some ([.nil], [tok enc (.iface 87 (.pointer (some ⟨low, 0, none⟩)))], [.cell 0 0]) := by kernel_rfl

set_option maxRecDepth 100000 in
theorem lifted (os : Os) (started : os.Started) (H : Type) (enc : TypeId × Value → H) (F : Stop.Interp) :
    ReturnsInHanded {} Tryd.checked os 5 .any ((OpenSpec.ofChange Rows.fnExactRulesOrderSpec).preRow enc Tryd.prog Tryd.f5 Rows.fnExactRulesOrderRow.domain false Rows.fnExactRulesOrderRow.laid) (((OpenSpec.ofChange Rows.fnExactRulesOrderSpec).at F).post enc Tryd.prog Tryd.f5 false true false false) := by
  refine returnsInHanded_of_row (C := Tryd.checked) (s := OpenSpec.ofChange Rows.fnExactRulesOrderSpec) own started (by kernel_rfl) Tryd.func5
    (witness_row_at (enc := enc) (C := Tryd.checked) false ({ World.holding Tryd.prog os ⟨#[.cells #[.string { data := #[110, 111, 116, 104, 105, 110, 103, 32, 116, 104, 97, 116, 32, 105, 115, 32, 108, 111, 111, 107, 101, 100, 32, 102, 111, 114] }] 106], #[], []⟩ with heap := ((World.holding Tryd.prog os ⟨#[.cells #[.string { data := #[110, 111, 116, 104, 105, 110, 103, 32, 116, 104, 97, 116, 32, 105, 115, 32, 108, 111, 111, 107, 101, 100, 32, 102, 111, 114] }] 106], #[], []⟩).heap.modify 0 fun
      | .cells _ t frozen => .cells #[.iface 87 (.pointer (some ⟨low, 0, none⟩))] t frozen
      | o => o) } : World) #[.slice none 0 0] rfl (by kernel_rfl) (by kernel_rfl) (by kernel_rfl)
      (OpenSpec.preRow_of_cond 8 (reads os enc) (by kernel_rfl) (fun k hk => by cases hk) (by kernel_rfl) (laid_met os))) ?_
  intro W base args ds gs before hval hW _ _ _ hL hSh _
  exact contract H enc W base args ds gs before hval hW hL

theorem said : Rows.FnExactRulesOrderSaid :=
  OpenClaim.holds_of_cond 5 Tryd.f5 rfl rfl rfl rfl rfl rfl rfl ⟨rfl, rfl, rfl, rfl, rfl⟩ rfl rfl rfl rfl rfl (by kernel_rfl) Tryd.func5 (by kernel_rfl)
    (of_decide_eq_true (by kernel_rfl)) (by unfold Func.isWrapper; first | (rw [if_pos (by decide +kernel)]; kernel_rfl) | (rw [if_neg (by decide +kernel)]; exact ⟨rfl, rfl⟩))
    (fun os started H enc _ F => by rw [OpenClaim.pre_eq_preRow]; exact lifted os started H enc F)

theorem plain (f : FuncId) (fn : Func) (hf : Tryd.pinned.checked.prog.funcNamed "loop.example/bellman/laws.FnExactRulesOrder" = some f) (hfn : Tryd.pinned.checked.prog.funcs[f]? = some fn) :
    false = Tryd.pinned.checked.prog.looks [] ∧ ∀ (j : Nat) t, fn.params[j]? = some t → Tryd.pinned.checked.prog.wantsStandIn t = false := by
  obtain rfl : f = 5 := Option.some.inj ((show Tryd.prog.funcNamed "loop.example/bellman/laws.FnExactRulesOrder" = some 5 by kernel_rfl).symm.trans hf) |>.symm
  obtain rfl : fn = Tryd.f5 := (Option.some.inj (Tryd.func5.symm.trans hfn)).symm
  refine ⟨by kernel_rfl, fun j t ht => ?_⟩
  rw [Tryd.params5] at ht
  have hm := Array.mem_of_getElem? ht
  simp only [List.mem_toArray, List.mem_cons, List.not_mem_nil, or_false] at hm
  rcases hm with rfl
  · exact (show Tryd.prog.wantsStandIn 37 = false by kernel_rfl)

theorem card : Rows.FnExactRulesOrderCardSaid :=
  Claim7.holds_tied_plain_at .later [] _ _ _ _ said (fun _ h => by cases h) (by kernel_rfl) (fun _ h => by cases h) fnExactRulesOrder_row_tie rfl ⟨rfl, rfl⟩ (by kernel_rfl) rfl plain (by kernel_rfl)
end Go.Proofs.YtkckeobapckejaaDoor.fnExactRulesOrder
namespace Go.Proofs.YtkckeobapckejaaDoor
theorem fnExactRulesOrder_holds : Rows.FnExactRulesOrderCardSaid := fnExactRulesOrder.card
#print axioms fnExactRulesOrder_holds
end Go.Proofs.YtkckeobapckejaaDoor

