/- What is looked for: the memory of its draws: deep enough, in rows of its own. -/
import Derived.Test.YtpokhhplgljmiaaDoorKin
import Derived.Test.YtpokhhplgljmiaaDoorDraw1
import Derived.Test.YtpokhhplgljmiaaDoorBox
import Derived.Test.YtpokhhplgljmiaaDoorEx5
import Derived.RangeFuncBox
namespace Go.Proofs.YtpokhhplgljmiaaDoor
open Go.ChangeShapes Go.WideShapes Go.ChangeAt Go.RowKit Go.Deep
set_option linter.unusedVariables false
set_option maxRecDepth 4000
def dq : Nat → Nat
  | 0 => 3
  | d + 1 => 3 + 3 * dq d
def dz : Nat → Nat
  | 0 => 0
  | d + 1 => 3 * (dz d + 1)
/-- What is drawn: one whose parts lie in rows of the call's own; the reader has gone on. -/
def XDraw (w : World) (R p q z : Nat) (e : Ending) (w' : World) : Prop :=
  ∃ (kd sy n : Int) (a : Option Addr) (cap : Nat) (F : Fo) (S : List Nat) (p' : Nat), e = .returned (.agg #[.int .i64 kd, .int .i64 sy, .int .i64 n, .slice a F.len cap]) ∧ Rd w' R p' ∧ p ≤ p' ∧ p' ≤ p + q ∧ w.grownBy w' (some R) ∧ OwnAt w' a S F ∧ S.Nodup ∧ (∀ y ∈ S, w.heap.size ≤ y ∧ y < w'.heap.size) ∧ F.len ≤ 3 ∧ F.size ≤ z ∧ (0 ≤ kd ∧ kd ≤ 7 ∧ 0 ≤ sy ∧ sy ≤ 4 ∧ 0 ≤ n ∧ n ≤ 20)
theorem ints_made (w : World) (l : List Int) (hl : l.length ≤ maxLen) (t : TypeId) : Ints (w.alloc (.cells (l.map (Value.int .i64)).toArray t)) (some ⟨w.heap.size, 0, none⟩) l := by
  refine ⟨hl, fun _ => ⟨_, _, rfl, by simp, fun i hi => ?_⟩⟩
  have h : (w.alloc (.cells (l.map (Value.int .i64)).toArray t)).heap[w.heap.size]? = some (.cells (l.map (Value.int .i64)).toArray t (0, 0)) := heap_alloc_new w _
  rw [xCell h]
  simp [hi]
theorem grown_below' {w u v : World} {r : Option Nat} (h : w.grownBy u r) (hb : Below u.heap.size u v) : w.grownBy v r :=
  grownBy_trans h ⟨hb.os, hb.tape, hb.output, hb.size, fun i hi _ => hb.block i hi⟩
theorem xd_new {w u : World} {r : Option Nat} {b : Nat} (h : w.grownBy u r) (hb : w.heap.size ≤ b) (o : Nat) (v : Value) : w.grownBy (u.setCell ⟨b, o, none⟩ v) r :=
  ⟨h.1, h.2, h.3, by simpa using h.4, fun i hi hn => (Below.heap_setCell _ _ _ _ (by simp; omega)).trans (h.5 i hi hn)⟩
theorem xd_store {w u : World} {r : Option Nat} {b : Nat} (h : w.grownBy u r) (hb : w.heap.size ≤ b) (v0 v1 v2 v3 : Value) : w.grownBy ((((u.setCell ⟨b, 0, none⟩ v0).setCell ⟨b, 1, none⟩ v1).setCell ⟨b, 2, none⟩ v2).setCell ⟨b, 3, none⟩ v3) r :=
  xd_new (xd_new (xd_new (xd_new h hb _ _) hb _ _) hb _ _) hb _ _
theorem xd_rd_set {w : World} {R p b : Nat} (h : Rd w R p) (hb : R < b) (o : Nat) (v : Value) : Rd (w.setCell ⟨b, o, none⟩ v) R p :=
  h.lower (B := R + 1) (by omega) ((Below.refl _ _).setCell (by show R + 1 ≤ b; omega) _)
theorem xd_rd_store {w : World} {R p b : Nat} (h : Rd w R p) (hb : R < b) (v0 v1 v2 v3 : Value) : Rd ((((w.setCell ⟨b, 0, none⟩ v0).setCell ⟨b, 1, none⟩ v1).setCell ⟨b, 2, none⟩ v2).setCell ⟨b, 3, none⟩ v3) R p :=
  xd_rd_set (xd_rd_set (xd_rd_set (xd_rd_set h hb _ _) hb _ _) hb _ _) hb _ _
theorem results_ex {fn : Func} {q : Tmp} (h : fn.results = #[.cell q 25]) (tmps : Array Value) (w : World) (g : Nat) (kd sy n : Int) (v : Value) (hp : tmps.getD q undef = .pointer (some ⟨g, 0, none⟩)) (hg : PBox w g kd sy n v) :
    (results fn tmps).run Tryd.prog w = .ok (.agg #[.int .i64 kd, .int .i64 sy, .int .i64 n, v]) w := by
  have hl := run_loadVar_row (P := Tryd.prog) w g 25 25 _ (0, 0) _ hg.row Tryd.underlying25 rfl (by kernel_rfl)
  have e : (results fn tmps).run Tryd.prog w = ((asAddr (tmps.getD q undef)).run Tryd.prog w).andThen fun a w₁ => (loadVar 25 a).run Tryd.prog w₁ := by
    simp only [results, h]
    simp [Sem.run_bind, Result.andThen]
  rw [e, hp]
  simp [asAddr, hl, Result.andThen]
theorem kids_range2 {kd : Int} (h : 2 ≤ kd ∧ kd ≤ 7) : 0 ≤ kidsOf kd ∧ kidsOf kd ≤ 3 := by
  have cs : kd = 2 ∨ kd = 3 ∨ kd = 4 ∨ kd = 5 ∨ kd = 6 ∨ kd = 7 := by omega
  rcases cs with rfl | rfl | rfl | rfl | rfl | rfl <;> decide
theorem PBox.put2 {w : World} {b : Nat} {kd sy n : Int} {v : Value} (h : PBox w b kd sy n v) (n' : Int) : PBox (w.setCell ⟨b, 2, none⟩ (.int .i64 n')) b kd sy n' v := ⟨heap_setCell_same _ _ _ _ _ _ h.row⟩
theorem owns_other {w w' : World} {B e z n R : Nat} {v : Value} {xs : List Value} (h : w.ownsRow B e z v n xs) (hg : w.grownBy w' (some R)) (hR : R < B) : w'.ownsRow B e z v n xs :=
  h.kept hg (.inr fun e => by have := (h.lt _ e).1; omega)
theorem owns_ne {w : World} {X e z n : Nat} {v : Value} {xs : List Value} (h : w.ownsRow (X + 1) e z v n xs) : v.ownBlock ≠ some X := fun e => by have := (h.lt _ e).1; omega
theorem PBox.kin {w w3 w6 : World} {b : Nat} {kd sy n : Int} {v : Value} {g : Option Nat} (h : PBox w3 b kd sy n v) (hg : w3.grownBy w6 g) (hn : g ≠ some b) : PBox w6 b kd sy n v := h.grown hg hn
theorem xd_grown_drew {w w' : World} {r : Option Nat} (h : w.grownBy w' r) : w.grownBy w'.drew r := grown_below' h ((Below.refl w'.heap.size w').drew)
theorem xd_grown {w w' w'' : World} {r r' : Option Nat} (h : w.grownBy w' r) (k : w'.grownBy w'' r') (hr : ∀ x, r' = some x → w.heap.size ≤ x) : w.grownBy w'' r :=
  ⟨k.1.trans h.1, k.2.trans h.2, k.3.trans h.3, Nat.le_trans h.4 k.4, fun x hx hne => (k.5 x (Nat.lt_of_lt_of_le hx h.4) (fun e => by have := hr x e.symm; omega)).trans (h.5 x hx hne)⟩
theorem PBox.put3 {w : World} {b : Nat} {kd sy n : Int} {v : Value} (h : PBox w b kd sy n v) (v' : Value) : PBox (w.setCell ⟨b, 3, none⟩ v') b kd sy n v' := ⟨heap_setCell_same _ _ _ _ _ _ h.row⟩
theorem xd_below_by {w w' : World} (h : Below w.heap.size w w') (r : Option Nat) : w.grownBy w' r := ⟨h.os, h.tape, h.output, h.size, fun k hk _ => h.block k hk⟩
/-- An append as one step of a region that draws, its run being known. -/
theorem xd_step {P : Program} {ops : Array Oper} {o : Oper} {a : Act} {w : World} {K : Act → World → Prop} {Q : Exit → Act → World → Prop} {E : Prop} (hg : o.guard = none) (s x : Operand) (t : TypeId)
    (hop : o.op = Op.call { callee := Callee.builtin Builtin.append, args := #[s, x], argTypes := #[t, t] }) (vs vx : Value) (hs : a.eval s = vs) (hx : a.eval x = vx) {v' : Value} {w' : World}
    (hrun : (Builtin.append_ #[t, t] o.type #[vs, vx]).run P w = .ok v' w') (hK : K (a.put o.dst v') w') : if Region.wanted o (yielded ops a.tmps) = true then Oper.wp P o a w K Q else E := by
  have hw : Region.wanted o (yielded ops a.tmps) = true := by simp [Region.wanted, hg]
  rw [if_pos hw]
  unfold Oper.wp
  simp [execOp, hop, resolve, invoke, builtin, hs, hx, hrun, Result.andThen]
  exact hK
/-- A kid is put behind the kids: what the append does. -/
theorem kin_run {wr w6 : World} {X R : Nat} {kd sy n kd' sy' n' : Int} {u : Value} {q : List Hd} {a' : Option Addr} {len cap' : Nat} (hX : PBox wr X kd sy n u) (hown : wr.ownsRow (X + 1) 25 4 u q.length (hdCells q)) (hg6 : wr.drew.grownBy w6 (some R)) (hBX : R < X) (hq : q.length ≤ 3) :
    PBox w6 X kd sy n u ∧ ∃ w7, w6.alloc (.cells #[.int .i64 kd', .int .i64 sy', .int .i64 n', .slice a' len cap'] 25) = w7 ∧ PBox w7 X kd sy n u ∧
      ∃ v8 w8, (Builtin.append_ #[23, 23] 23 #[u, .slice (some ⟨w6.heap.size, 0, none⟩) 1 1]).run Tryd.prog w7 = .ok v8 w8 ∧ PBox w8 X kd sy n u ∧ w8.ownsRow (X + 1) 25 4 v8 (q.length + 1) (hdCells (q ++ [⟨kd', sy', n', a', len, cap'⟩])) ∧ w7.grownBy w8 u.ownBlock ∧ (∀ k, v8.ownBlock = some k → u.ownBlock = some k ∨ w7.heap.size ≤ k) := by
  obtain ⟨i0, hinf, hz0, hz1, hz2⟩ := info_ex_parts
  have hXl : X < wr.heap.size := hX.lt
  have hX6 : PBox w6 X kd sy n u := PBox.grown (w := wr.drew) ⟨hX.row⟩ hg6 (fun e => by cases e; omega)
  have hs6 : wr.heap.size ≤ w6.heap.size := hg6.4
  have hownd : wr.drew.ownsRow (X + 1) 25 4 u q.length (hdCells q) := owns_below hown ((Below.refl wr.heap.size wr).drew)
  have hown6 : w6.ownsRow (X + 1) 25 4 u q.length (hdCells q) := hownd.kept hg6 (.inr fun e => by have := (hown.lt _ e).1; omega)
  obtain ⟨w7, hw7⟩ : ∃ w7, w6.alloc (.cells #[.int .i64 kd', .int .i64 sy', .int .i64 n', .slice a' len cap'] 25) = w7 := ⟨_, rfl⟩
  have hb7 : Below w6.heap.size w6 w7 := by rw [← hw7]; exact xBelow_new _ _
  have hn7 : w7.heap[w6.heap.size]? = some (.cells #[.int .i64 kd', .int .i64 sy', .int .i64 n', .slice a' len cap'] 25 (0, 0)) := by rw [← hw7]; exact heap_alloc_new _ _
  have hown7 := owns_below hown6 hb7
  have hs7 := hb7.size
  obtain ⟨v8, w8, hrun, r1, r2, r3⟩ := append_where (P := Tryd.prog) w7 (X + 1) 23 23 25 i0 (.agg #[.int .i64 0, .int .i64 0, .int .i64 0, .slice none 0 0]) 4 48 Tryd.underlying23 hinf hz0 hz1 hz2 rfl (by decide) u q.length (hdCells q) hown7 ⟨w6.heap.size, 0, none⟩ 1 1 [.int .i64 kd', .int .i64 sy', .int .i64 n', .slice a' len cap'] rfl
    (by intro j x hj; rw [add_plain, cell_at hn7]; simpa using hj)
    (by intro x hx; simp at hx; rcases hx with rfl | rfl | rfl | rfl <;> rfl) (by unfold maxLen; omega) (by omega) (by omega)
  exact ⟨hX6, w7, hw7, hX6.below hb7, v8, w8, hrun, (hX6.below hb7).grown r2 (fun e => by have := (hown.lt _ e).1; omega), by rw [hdCells_snoc]; exact r1, r2, r3⟩
/-- Behind a kid: what lies where. -/
theorem kin_close {w wr w6 w7 w8 : World} {X R p3 gv cv : Nat} {kd sy n kd' sy' n' : Int} {u : Value} {q : List Hd} {G F' : Fo} {S S' : List Nat} {a' : Option Addr} {cap' : Nat}
    (hBl : R < w.heap.size) (hwX : w.heap.size < X) (g05 : w.grownBy wr (some R)) (hX5 : PBox wr X kd sy n u) (hR5 : PBox wr w.heap.size 0 0 0 (.slice none 0 0)) (hown : wr.ownsRow (X + 1) 25 4 u q.length (hdCells q))
    (hHd : HeadsS wr q G S) (hnd : S.Nodup) (hSS : ∀ x ∈ S, X + 1 ≤ x ∧ x < wr.heap.size ∧ some x ≠ u.ownBlock)
    (hg6 : wr.drew.grownBy w6 (some R)) (hl6 : Rd w6 R p3) (hO6 : OwnAt w6 a' S' F') (hnd6 : S'.Nodup) (hS6 : ∀ x ∈ S', wr.drew.heap.size ≤ x ∧ x < w6.heap.size) (hF3 : F'.len ≤ 3)
    (hw7 : w6.alloc (.cells #[.int .i64 kd', .int .i64 sy', .int .i64 n', .slice a' F'.len cap'] 25) = w7)
    (r0 : PBox w8 X kd sy n u) (r1 : w8.ownsRow (X + 1) 25 4 (.slice (some ⟨gv, 0, none⟩) (q.length + 1) cv) (q.length + 1) (hdCells (q ++ [⟨kd', sy', n', a', F'.len, cap'⟩]))) (r2 : w7.grownBy w8 u.ownBlock) (r3 : u.ownBlock = some gv ∨ w7.heap.size ≤ gv) {w9 : World}
    (hw9 : w8.setCell ⟨X, 3, none⟩ (.slice (some ⟨gv, 0, none⟩) (q.length + 1) cv) = w9) :
    Rd w9 R p3 ∧ PBox w9 X kd sy n (.slice (some ⟨gv, 0, none⟩) (q.length + 1) cv) ∧ PBox w9 w.heap.size 0 0 0 (.slice none 0 0) ∧ w9.ownsRow (X + 1) 25 4 (.slice (some ⟨gv, 0, none⟩) (q.length + 1) cv) (q.length + 1) (hdCells (q ++ [⟨kd', sy', n', a', F'.len, cap'⟩])) ∧
    HeadsS w9 (q ++ [⟨kd', sy', n', a', F'.len, cap'⟩]) (G.app (.cons kd' sy' n' F' .nil)) (S ++ S') ∧ (S ++ S').Nodup ∧ (∀ x ∈ S ++ S', X + 1 ≤ x ∧ x < w9.heap.size ∧ some x ≠ (Value.slice (some ⟨gv, 0, none⟩) (q.length + 1) cv).ownBlock) ∧ w.grownBy w9 (some R) := by
  have hXl := hX5.lt
  have hrs : wr.drew.heap.size = wr.heap.size := rfl
  have hs6 : wr.heap.size ≤ w6.heap.size := hg6.4
  have hb7 : Below w6.heap.size w6 w7 := by rw [← hw7]; exact xBelow_new _ _
  have hs7 := hb7.size
  have hs8 := r2.4
  have hus := fun k hk => hown.lt k hk
  have hgv : X + 1 ≤ gv := (r1.lt gv rfl).1
  have hsz9 : w9.heap.size = w8.heap.size := by rw [← hw9]; simp
  have h98 : ∀ x, x ≠ X → w9.heap[x]? = w8.heap[x]? := fun x hx => by rw [← hw9]; exact Below.heap_setCell _ _ _ _ hx
  have h86 : ∀ x, x < w6.heap.size → some x ≠ u.ownBlock → w8.heap[x]? = w6.heap[x]? := fun x hx hne => (r2.5 x (by omega) hne).trans (hb7.block x hx)
  have h6r : ∀ x, x < wr.heap.size → x ≠ R → w6.heap[x]? = wr.heap[x]? := fun x hx hne => hg6.5 x hx (fun e => hne (Option.some.inj e))
  have hlow : ∀ x, x ≤ X → some x ≠ u.ownBlock := fun x hx e => by have := (hus x e.symm).1; omega
  have hS9 : ∀ x ∈ S, w9.heap[x]? = wr.heap[x]? := fun x hx => by
    obtain ⟨k1, k2, k3⟩ := hSS x hx
    rw [h98 x (by omega), h86 x (by omega) k3, h6r x k2 (by omega)]
  have hS9' : ∀ x ∈ S', w9.heap[x]? = w6.heap[x]? := fun x hx => by
    obtain ⟨k1, k2⟩ := hS6 x hx
    rw [hrs] at k1
    rw [h98 x (by omega), h86 x k2 (fun e => by have := (hus x e.symm).2; omega)]
  have hg9 : w8.grownBy w9 (some X) := by rw [← hw9]; exact ⟨rfl, rfl, rfl, by simp, fun b _ hb => Below.heap_setCell _ _ _ _ (fun e => hb (by rw [e]))⟩
  have hl6l := hl6.lt
  refine ⟨hl6.lower (B := R + 1) (by omega) ⟨?_, ?_, ?_, by omega, fun x hx => by rw [h98 _ (by omega), h86 _ (by omega) (hlow _ (by omega))]⟩, ?_, ?_, ?_, ?_, ?_, ?_, ?_⟩
  · exact hg9.1.trans (r2.1.trans hb7.os)
  · exact hg9.2.trans (r2.2.trans hb7.tape)
  · exact hg9.3.trans (r2.3.trans hb7.output)
  · rw [← hw9]; exact r0.put3 _
  · exact ⟨by rw [h98 _ (by omega), h86 _ (by omega) (hlow _ (by omega)), h6r _ (by omega) (by omega)]; exact hR5.row⟩
  · exact r1.kept hg9 (.inr fun e => by have : gv = X := Option.some.inj e; omega)
  · exact HeadsS.snoc ⟨kd', sy', n', a', F'.len, cap'⟩ F' S' rfl (by unfold maxLen; omega) (hO6.of_blocks hS9') q G S (hHd.of_blocks q G S hS9)
  · refine List.nodup_append.2 ⟨hnd, hnd6, fun x hx y hy => ?_⟩
    have h1 := (hSS x hx).2.1
    have h2 := (hS6 y hy).1
    omega
  · intro x hx
    rcases List.mem_append.1 hx with hx | hx
    · obtain ⟨k1, k2, k3⟩ := hSS x hx
      refine ⟨k1, by omega, fun e => ?_⟩
      have e : x = gv := Option.some.inj e
      rcases r3 with h | h
      · exact k3 (by rw [h, e])
      · omega
    · obtain ⟨k1, k2⟩ := hS6 x hx
      rw [hrs] at k1
      refine ⟨by omega, by omega, fun e => ?_⟩
      have e : x = gv := Option.some.inj e
      rcases r3 with h | h
      · have := (hus _ h).2; omega
      · omega
  · exact xd_grown (xd_grown (grownBy_trans (grownBy_trans (xd_grown_drew g05) hg6) (xd_below_by hb7 _)) r2 (fun x hx => by have := (hus x hx).1; omega)) hg9 (fun x hx => by cases hx; omega)
end Go.Proofs.YtpokhhplgljmiaaDoor
