/- One operation of a region that draws, by its run. -/
import Derived.Test.YtohijenlcfkliaaDoorDrInv
namespace Go.Proofs.YtohijenlcfkliaaDoor
open Go
set_option linter.unusedVariables false
section
variable {P : Program} {ops : Array Oper} {Q : Exit → Act → World → Prop} {i : Nat} {K : Act → World → Prop} {a : Act} {w w' : World} {o : Oper} {v : Value}
theorem wpOp_value (ho : ops[i]? = some o) (hg : o.guard = none) (hr : (execOp a.eval o).run P w = .ok (.value v) w') (hK : K (a.put o.dst v) w') : wpOp P ops Q i K a w := by
  unfold wpOp
  rw [ho]
  have hw : Region.wanted o (yielded ops a.tmps) = true := by simp [Region.wanted, hg]
  simp only [hw, if_true]
  refine .inl ?_
  unfold Oper.wp
  rw [hr]
  exact hK
theorem wpOp_skip (ho : ops[i]? = some o) (hg : o.guard = none) (hr : (execOp a.eval o).run P w = .ok .skip w') (hK : K (a.put o.dst undef) w') : wpOp P ops Q i K a w := by
  unfold wpOp
  rw [ho]
  have hw : Region.wanted o (yielded ops a.tmps) = true := by simp [Region.wanted, hg]
  simp only [hw, if_true]
  refine .inl ?_
  unfold Oper.wp
  rw [hr]
  exact hK
theorem wpOp_call {f : FuncId} {args : Array Value} (ho : ops[i]? = some o) (hg : o.guard = none) (hr : (execOp a.eval o).run P w = .ok (.enter f args) w) (hc : Calls P f args w fun e w'' => ∃ v, e = .returned v ∧ K (a.put o.dst v) w'') : wpOp P ops Q i K a w := by
  unfold wpOp
  rw [ho]
  have hw : Region.wanted o (yielded ops a.tmps) = true := by simp [Region.wanted, hg]
  simp only [hw, if_true]
  refine .inl ?_
  unfold Oper.wp
  rw [hr]
  exact hc.mono fun e w'' ⟨v, he, hk⟩ => by subst he; exact hk
end
/-- The rule for such a region, at the slots as they stand ahead of it. -/
theorem wp_region_rinv {P : Program} {id : Nat} {ops : Array Oper} {Q : Exit → Act → World → Prop} {a : Act} {w : World} (hm : P.follows .mixedOrders = true) (n base : Nat) (V : Nat → Value → World → Prop) (S : Nat → World → Prop) (Fin : World → Prop)
    (hsz : ops.size = n + 1) (hd : a.defers = []) (hB : ∀ (i : Nat) (o : Oper), ops[i]? = some o → ∀ e ∈ o.after, e.on < i) (hS : ∀ k, k ≤ n + 1 → S k w.drew)
    (step : ∀ listed b u i o, RInv n base a.tmps V S Fin listed b u → i < n → listed.getD i true = false → listed.getD n false = false → ops[i]? = some o → (∀ e ∈ o.after, Region.binds .any e = true → listed.getD e.on false = true) → wpOp P ops Q i (RInv n base a.tmps V S Fin (listed.setIfInBounds i true)) b u)
    (last : ∀ listed b u o, RInv n base a.tmps V S Fin listed b u → listed.getD n false = false → ops[n]? = some o → (∀ e ∈ o.after, Region.binds .any e = true → listed.getD e.on false = true) → wpOp P ops Q n (RInv n base a.tmps V S Fin (listed.setIfInBounds n true)) b u)
    (done : ∀ b u, b.defers = [] → b.tmps.size = a.tmps.size → (∀ j, j < base → b.tmps.getD j undef = a.tmps.getD j undef) → Fin u → Q .normal b u) : (Code.region id ops true).wp P Q a w := by
  refine wp_region_inv hm (RInv n base a.tmps V S Fin) ?_ (fun listed b u i o hI hi hl ho haf => ?_) (fun listed b u hI hr => done b u hI.df hI.sz hI.old (hI.through hsz hB hr))
  · rw [hsz]; exact RInv.start rfl hd hS
  · by_cases e : i = n
    · subst e
      exact last listed b u o hI (by rw [← getD_same (by rw [hI.ls]; omega)]; exact hl) ho haf
    · have hi' : i < n := by omega
      exact step listed b u i o hI hi' hl (hI.going hi' hl) ho haf
/-- What the operations of the commonest kinds do. -/
theorem run_move {P : Program} {w : World} {o : Oper} {ρ : Operand → Value} {x : Operand} (h : o.op = .move x) : (execOp ρ o).run P w = .ok (.value (ρ x)) w := by
  simp [execOp, h]
theorem run_func {P : Program} {w : World} {o : Oper} {ρ : Operand → Value} {f : FuncId} {fn : Func} {c : Code} {args : Array Operand} {ts : Array TypeId} (h : o.op = .call { callee := .value (.func f), args := args, argTypes := ts }) (hρ : ρ (.func f) = .func (.func f) #[] #[])
    (hf : P.funcs[f]? = some fn) (hname : (fn.name == "runtime.NumGoroutine") = false) (hb : fn.body = some c) : (execOp ρ o).run P w = .ok (.enter f (args.map ρ)) w := by
  have h1 : fn.name ≠ "runtime.NumGoroutine" := by simpa using hname
  have hc : (callFunc f (args.map ρ)).run P w = .ok (.enter f (args.map ρ)) w := by simp [callFunc, hf, h1, hb]
  simp only [execOp, h]
  simp [resolve, invoke, hρ, Deferred.ofValue, hc]
end Go.Proofs.YtohijenlcfkliaaDoor
