/- Statements that draw their order and whose operations write slots in a row, the last one a store: what each slot holds, said once. -/
import Derived.Test.YtohijenlcfkliaaDoorAnyInv
namespace Go.Proofs.YtohijenlcfkliaaDoor
open Go
set_option linter.unusedVariables false

/-- Operations 0 to n - 1 write the slots base, base + 1, ..; V says what each holds; S what is true of the world while so many are left; Fin what is true behind the last one. -/
structure RInv (n base : Nat) (A0 : Array Value) (V : Nat → Value → World → Prop) (S : Nat → World → Prop) (Fin : World → Prop) (listed : Array Bool) (a : Act) (w : World) : Prop where
  ls : listed.size = n + 1
  df : a.defers = []
  sz : a.tmps.size = A0.size
  old : ∀ j, j < base → a.tmps.getD j undef = A0.getD j undef
  val : listed.getD n false = false → ∀ i, i < n → listed.getD i false = true → V i (a.tmps.getD (base + i) undef) w
  st : listed.getD n false = false → S (leftOf (n + 1) listed) w
  fin : listed.getD n false = true → Fin w
  all : listed.getD n false = true → ∀ i, i < n → listed.getD i false = true
theorem getD_same {listed : Array Bool} {i : Nat} (h : i < listed.size) : listed.getD i true = listed.getD i false := by simp [Array.getD_eq_getD_getElem?, h]
theorem set_getD {listed : Array Bool} {i j : Nat} (h : i < listed.size) : (listed.setIfInBounds i true).getD j false = if i = j then true else listed.getD j false := by
  by_cases e : i = j
  · subst e; simp [Array.getD_eq_getD_getElem?, h]
  · simp [Array.getD_eq_getD_getElem?, e]
theorem put_getD {a : Act} {d j : Nat} {v : Value} (h : d < a.tmps.size) : (a.put (some d) v).tmps.getD j undef = if d = j then v else a.tmps.getD j undef := by
  by_cases e : d = j
  · subst e; simp [Act.put, Array.getD_eq_getD_getElem?, h]
  · simp [Act.put, Array.getD_eq_getD_getElem?, e]
section
variable {n base : Nat} {A0 : Array Value} {V : Nat → Value → World → Prop} {S : Nat → World → Prop} {Fin : World → Prop} {listed : Array Bool} {a : Act} {w : World}
theorem RInv.start (hA : A0 = a.tmps) (hd : a.defers = []) (h : ∀ k, k ≤ n + 1 → S k w) : RInv n base A0 V S Fin (Array.replicate (n + 1) false) a w := by
  have hg : ∀ i, (Array.replicate (n + 1) false).getD i false = false := fun i => by
    by_cases hi : i < n + 1 <;> simp [Array.getD_eq_getD_getElem?, hi]
  refine ⟨by simp, hd, by rw [hA], fun j _ => by rw [hA], fun _ i _ h1 => ?_, fun _ => h _ ?_, fun h1 => ?_, fun h1 => ?_⟩
  · rw [hg] at h1; cases h1
  · have : leftOf (n + 1) (Array.replicate (n + 1) false) ≤ (List.range (n + 1)).length := List.countP_le_length
    simpa using this
  · rw [hg] at h1; cases h1
  · rw [hg] at h1; cases h1
/-- While one is left that is not the last one, the last one is left, too. -/
theorem RInv.going (h : RInv n base A0 V S Fin listed a w) {i : Nat} (hi : i < n) (hl : listed.getD i true = false) : listed.getD n false = false := by
  cases e : listed.getD n false with
  | false => rfl
  | true =>
    have h1 := h.all e i hi
    rw [getD_same (by rw [h.ls]; omega), h1] at hl
    cases hl
theorem RInv.put (h : RInv n base A0 V S Fin listed a w) {i : Nat} {v : Value} {w' : World} (hi : i < n) (hb : base + n ≤ A0.size) (hl : listed.getD i true = false)
    (hV : ∀ j x, V j x w → V j x w') (hv : V i v w') (hS : ∀ k, k + 1 ≤ leftOf (n + 1) listed → S k w') : RInv n base A0 V S Fin (listed.setIfInBounds i true) (a.put (some (base + i)) v) w' := by
  have hn := h.going hi hl
  have hls : i < listed.size := by rw [h.ls]; omega
  have hd : base + i < a.tmps.size := by rw [h.sz]; omega
  have hn' : (listed.setIfInBounds i true).getD n false = false := by rw [set_getD hls, if_neg (by omega)]; exact hn
  refine ⟨by simp [h.ls], h.df, by simp [Act.put, h.sz], fun j hj => by rw [put_getD hd, if_neg (by omega)]; exact h.old j hj, fun _ j hj hlj => ?_, fun _ => hS _ ?_, fun e => ?_, fun e => ?_⟩
  · rw [put_getD hd]
    by_cases e : i = j
    · subst e; rw [if_pos rfl]; exact hv
    · rw [if_neg (by omega)]
      rw [set_getD hls, if_neg e] at hlj
      exact hV j _ (h.val hn j hj hlj)
  · exact left_take (by omega) hl
  · rw [hn'] at e; cases e
  · rw [hn'] at e; cases e
/-- The last one. -/
theorem RInv.last (h : RInv n base A0 V S Fin listed a w) {w' : World} (hall : ∀ i, i < n → listed.getD i false = true) (hF : Fin w') : RInv n base A0 V S Fin (listed.setIfInBounds n true) a w' := by
  have hls : n < listed.size := by rw [h.ls]; omega
  have hn' : (listed.setIfInBounds n true).getD n false = true := by rw [set_getD hls, if_pos rfl]
  refine ⟨by simp [h.ls], h.df, h.sz, h.old, fun e => ?_, fun e => ?_, fun _ => hF, fun _ i hi => ?_⟩
  · rw [hn'] at e; cases e
  · rw [hn'] at e; cases e
  · rw [set_getD hls]; split; rfl; exact hall i hi
/-- Where nothing is ready, the last one is through, if every operation waits for earlier ones alone. -/
theorem RInv.through {ops : Array Oper} (h : RInv n base A0 V S Fin listed a w) (hsz : ops.size = n + 1) (hB : ∀ (i : Nat) (o : Oper), ops[i]? = some o → ∀ e ∈ o.after, e.on < i) (hr : Region.ready .any ops listed = []) : Fin w := by
  have key : ∀ i, i < n + 1 → listed.getD i false = true := by
    intro i
    induction i using Nat.strongRecOn with
    | _ i ih =>
    intro hi
    cases e : listed.getD i false with
    | true => rfl
    | false =>
      exfalso
      have hm : i ∈ Region.ready .any ops listed := by
        have hio : i < ops.size := by omega
        simp only [Region.ready, List.mem_filter, List.mem_range, Bool.and_eq_true]
        refine ⟨hio, ?_, ?_⟩
        · rw [getD_same (by rw [h.ls]; omega), e]; rfl
        · rw [Array.getElem?_eq_getElem hio]
          simp only [Option.map_some, Option.getD_some]
          refine Array.all_eq_true_iff_forall_mem.2 fun x hx => ?_
          have h1 := hB i _ (Array.getElem?_eq_getElem hio) x hx
          rw [ih x.on h1 (by omega)]
          simp
      rw [hr] at hm
      cases hm
  exact h.fin (key n (by omega))
end
end Go.Proofs.YtohijenlcfkliaaDoor
