/- A statement that draws its order, by an invariant: each operation that is ready keeps it, whatever was done ahead. -/
import Derived.Orders
import Derived.WalkKit
namespace Go.Proofs.YtohijenlcfkliaaDoor
open Go
set_option linter.unusedVariables false

/-- How many operations are left. -/
def leftOf (n : Nat) (listed : Array Bool) : Nat := (List.range n).countP fun i => !listed.getD i true
theorem left_take {n i : Nat} {listed : Array Bool} (hi : i < n) (hl : listed.getD i true = false) : leftOf n (listed.setIfInBounds i true) + 1 ≤ leftOf n listed := by
  have key : ∀ (l : List Nat), l.Nodup → l.countP (fun j => !(listed.setIfInBounds i true).getD j true) + (if i ∈ l then 1 else 0) ≤ l.countP (fun j => !listed.getD j true) := by
    intro l
    induction l with
    | nil => intro _; simp
    | cons j l ih =>
      intro hnd
      obtain ⟨h1, h2⟩ := List.nodup_cons.1 hnd
      have ih := ih h2
      by_cases e : j = i
      · subst e
        have hs : (listed.setIfInBounds j true).getD j true = true := by
          by_cases hj : j < listed.size
          · simp [Array.getD_eq_getD_getElem?, hj]
          · simp [Array.getD_eq_getD_getElem?, hj]
        rw [if_neg h1] at ih
        rw [List.countP_cons, List.countP_cons, hs, hl]
        simp only [Bool.not_true, Bool.not_false, Bool.false_eq_true, if_false, if_true, List.mem_cons, true_or]
        omega
      · have hs : (listed.setIfInBounds i true).getD j true = listed.getD j true := by
          simp [Array.getD_eq_getD_getElem?, Ne.symm e]
        have hm : (i ∈ j :: l) ↔ i ∈ l := by simp [Ne.symm e]
        rw [List.countP_cons, List.countP_cons, hs]
        simp only [hm]
        omega
  have := key (List.range n) List.nodup_range
  rw [if_pos (List.mem_range.2 hi)] at this
  exact this
theorem left_ready {md : Region.Mode} {ops : Array Oper} {listed : Array Bool} {i : Nat} (h : i ∈ Region.ready md ops listed) : i < ops.size ∧ listed.getD i true = false ∧ ∃ o, ops[i]? = some o ∧ ∀ e ∈ o.after, Region.binds md e = true → listed.getD e.on false = true := by
  simp only [Region.ready, List.mem_filter, List.mem_range, Bool.and_eq_true] at h
  obtain ⟨h0, h1, h2⟩ := h
  refine ⟨h0, by simpa using h1, ?_⟩
  cases ho : ops[i]? with
  | none => rw [ho] at h2; simp at h2
  | some o =>
    rw [ho] at h2
    refine ⟨o, rfl, fun e he hb => ?_⟩
    simp only [Option.map_some, Option.getD_some] at h2
    have h3 := (Array.all_eq_true_iff_forall_mem.1 h2) e he
    rw [hb] at h3
    simpa using h3
/-- The rule. -/
theorem wpAny_inv {P : Program} {md : Region.Mode} {ops : Array Oper} {Q : Exit → Act → World → Prop} (Inv : Array Bool → Act → World → Prop)
    (step : ∀ listed a w i o, Inv listed a w → i < ops.size → listed.getD i true = false → ops[i]? = some o → (∀ e ∈ o.after, Region.binds md e = true → listed.getD e.on false = true) → wpOp P ops Q i (Inv (listed.setIfInBounds i true)) a w)
    (done : ∀ listed a w, Inv listed a w → Region.ready md ops listed = [] → Q .normal a w) :
    ∀ (fuel : Nat) (listed : Array Bool) (a : Act) (w : World), leftOf ops.size listed ≤ fuel → Inv listed a w → wpAny P md ops Q fuel listed a w := by
  intro fuel
  induction fuel with
  | zero =>
    intro listed a w hf hI
    have hr : Region.ready md ops listed = [] := by
      cases hr : Region.ready md ops listed with
      | nil => rfl
      | cons i rs =>
        have h := left_ready (md := md) (ops := ops) (listed := listed) (i := i) (by rw [hr]; simp)
        have := left_take h.1 h.2.1
        omega
    exact ⟨hr, done listed a w hI hr⟩
  | succ fuel ih =>
    intro listed a w hf hI
    refine ⟨done listed a w hI, fun i hi => ?_⟩
    obtain ⟨h0, h1, o, ho, h2⟩ := left_ready hi
    have hl := left_take h0 h1
    exact wpOp_mono (fun a' w' h' => ih _ _ _ (by omega) h') (step listed a w i o hI h0 h1 ho h2)
/-- The rule at a region. -/
theorem wp_region_inv {P : Program} {id : Nat} {ops : Array Oper} {Q : Exit → Act → World → Prop} {a : Act} {w : World} (hm : P.follows .mixedOrders = true) (Inv : Array Bool → Act → World → Prop)
    (start : Inv (Array.replicate ops.size false) a w.drew)
    (step : ∀ listed a w i o, Inv listed a w → i < ops.size → listed.getD i true = false → ops[i]? = some o → (∀ e ∈ o.after, Region.binds .any e = true → listed.getD e.on false = true) → wpOp P ops Q i (Inv (listed.setIfInBounds i true)) a w)
    (done : ∀ listed a w, Inv listed a w → Region.ready .any ops listed = [] → Q .normal a w) : (Code.region id ops true).wp P Q a w :=
  wp_region_any hm (wpAny_inv Inv step done _ _ _ _ (by
    have : leftOf ops.size (Array.replicate ops.size false) ≤ (List.range ops.size).length := List.countP_le_length
    simpa using this) start)
end Go.Proofs.YtohijenlcfkliaaDoor
