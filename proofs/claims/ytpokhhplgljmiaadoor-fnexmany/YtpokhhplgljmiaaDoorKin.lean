/- Lists of what is looked for that are put together part by part: their heads, in rows of the call's own; boxes of one. -/
import Derived.Test.YtpokhhplgljmiaaDoorExN
import Derived.Test.YtpokhhplgljmiaaDoorExM1
import Derived.Test.YtpokhhplgljmiaaDoorEx8
import Derived.Deep.Cut
import Derived.Deep.RegionLaw
import Derived.Lib.Builder
namespace Go.Proofs.YtpokhhplgljmiaaDoor
open Go.ChangeShapes Go.WideShapes Go.ChangeAt Go.RowKit
set_option linter.unusedVariables false
set_option maxRecDepth 4000
theorem below_store {w w' : World} {B b : Nat} (h : Below B w w') (hb : B ≤ b) (v0 v1 v2 v3 : Value) : Below B w ((((w'.setCell ⟨b, 0, none⟩ v0).setCell ⟨b, 1, none⟩ v1).setCell ⟨b, 2, none⟩ v2).setCell ⟨b, 3, none⟩ v3) :=
  (((h.setCell hb _).setCell hb _).setCell hb _).setCell hb _
set_option maxRecDepth 4000
def Fo.app : Fo → Fo → Fo
  | .nil, G => G
  | .cons kd sy n k r, G => .cons kd sy n k (r.app G)
theorem Fo.app_nil : ∀ F : Fo, F.app .nil = F
  | .nil => rfl
  | .cons kd sy n k r => by show Fo.cons kd sy n k (r.app .nil) = _; rw [Fo.app_nil r]
theorem Fo.app_app : ∀ F G H : Fo, (F.app G).app H = F.app (G.app H)
  | .nil, _, _ => rfl
  | .cons kd sy n k r, G, H => by show Fo.cons kd sy n k ((r.app G).app H) = Fo.cons kd sy n k (r.app (G.app H)); rw [Fo.app_app r]
theorem Fo.app_len : ∀ F G : Fo, (F.app G).len = F.len + G.len
  | .nil, G => by show G.len = 0 + G.len; omega
  | .cons kd sy n k r, G => by show (r.app G).len + 1 = r.len + 1 + G.len; rw [Fo.app_len r G]; omega
/-- A box of one with kids. -/
structure PBox (w : World) (b : Nat) (kd sy n : Int) (v : Value) : Prop where
  row : w.heap[b]? = some (.cells #[.int .i64 kd, .int .i64 sy, .int .i64 n, v] 25 (0, 0))
theorem PBox.lt {w : World} {b : Nat} {kd sy n : Int} {v : Value} (h : PBox w b kd sy n v) : b < w.heap.size := (Array.getElem?_eq_some_iff.1 h.row).1
theorem PBox.below {w w' : World} {b : Nat} {kd sy n : Int} {v : Value} (h : PBox w b kd sy n v) (hb : Below w.heap.size w w') : PBox w' b kd sy n v := ⟨(hb.block b h.lt).trans h.row⟩
theorem PBox.cells {w : World} {b : Nat} {kd sy n : Int} {v : Value} (h : PBox w b kd sy n v) : w.cell? ⟨b, 0, none⟩ = some (.int .i64 kd) ∧ w.cell? ⟨b, 1, none⟩ = some (.int .i64 sy) ∧ w.cell? ⟨b, 2, none⟩ = some (.int .i64 n) ∧ w.cell? ⟨b, 3, none⟩ = some v :=
  ⟨cell_at h.row 0, cell_at h.row 1, cell_at h.row 2, cell_at h.row 3⟩
theorem PBox.free {w : World} {b : Nat} {kd sy n : Int} {v : Value} (h : PBox w b kd sy n v) (i : Nat) : w.frozen? ⟨b, i, none⟩ = false := Lib.frozen_of_heap h.row i
theorem PBox.grown {w w' : World} {b : Nat} {kd sy n : Int} {v : Value} {g : Option Nat} (h : PBox w b kd sy n v) (hg : w.grownBy w' g) (hn : g ≠ some b) : PBox w' b kd sy n v := ⟨(hg.5 b h.lt (fun e => hn e.symm)).trans h.row⟩
theorem PBox.other {w : World} {b : Nat} {kd sy n : Int} {v : Value} (h : PBox w b kd sy n v) (b' i : Nat) (hb : b ≠ b') (u : Value) : PBox (w.setCell ⟨b', i, none⟩ u) b kd sy n v := ⟨(Below.heap_setCell _ _ _ _ hb).trans h.row⟩
theorem PBox.put {w : World} {b : Nat} {kd sy n : Int} {v : Value} (h : PBox w b kd sy n v) (u : Value) : PBox (w.setCell ⟨b, 3, none⟩ u) b kd sy n u := ⟨heap_setCell_same _ _ _ _ _ _ h.row⟩
theorem PBox.store {w : World} {b : Nat} {kd sy n : Int} {v : Value} (h : PBox w b kd sy n v) (kd' sy' n' : Int) (v' : Value) : PBox ((((w.setCell ⟨b, 0, none⟩ (.int .i64 kd')).setCell ⟨b, 1, none⟩ (.int .i64 sy')).setCell ⟨b, 2, none⟩ (.int .i64 n')).setCell ⟨b, 3, none⟩ v') b kd' sy' n' v' :=
  ⟨heap_setCell_same _ _ _ _ _ _ (heap_setCell_same _ _ _ _ _ _ (heap_setCell_same _ _ _ _ _ _ (heap_setCell_same _ _ _ _ _ _ h.row)))⟩
theorem store_low {w : World} {b lo : Nat} (hb : b < lo) (v0 v1 v2 v3 : Value) : ∀ x, lo ≤ x → ((((w.setCell ⟨b, 0, none⟩ v0).setCell ⟨b, 1, none⟩ v1).setCell ⟨b, 2, none⟩ v2).setCell ⟨b, 3, none⟩ v3).heap[x]? = w.heap[x]? := by
  intro x hx
  rw [Below.heap_setCell _ _ _ _ (by simp; omega), Below.heap_setCell _ _ _ _ (by simp; omega), Below.heap_setCell _ _ _ _ (by simp; omega), Below.heap_setCell _ _ _ _ (by simp; omega)]
theorem slice_own {w : World} {B : Nat} {e : TypeId} {z : Nat} {v : Value} {n : Nat} {xs : List Value} (h : w.ownsRow B e z v n xs) : ∃ a cap, v = .slice a n cap := by
  rcases h.2 with ⟨rfl, rfl⟩ | ⟨g, cap, cur, rfl, _⟩
  · exact ⟨none, 0, rfl⟩
  · exact ⟨_, _, rfl⟩
/-- An append whose run is known, as a walk meets it. -/
theorem xwpList_append_run {P : Program} {w : World} {ops : Array Oper} {rest : List Oper} {o : Oper} {a : Act} {Q : Exit → Act → World → Prop} (hgd : o.guard = none) (s x : Operand) (t : TypeId)
    (ho : o.op = .call { callee := .builtin .append, args := #[s, x], argTypes := #[t, t] }) (vs vx : Value) (hs : a.eval s = vs) (hx : a.eval x = vx) {v' : Value} {w' : World}
    (hr : (Builtin.append_ #[t, t] o.type #[vs, vx]).run P w = .ok v' w') (h : wpList P ops Q rest (a.put o.dst v') w') : wpList P ops Q (o :: rest) a w := by
  refine wpList_plain hgd fun _ hK => ?_
  unfold Oper.wp execOp
  simp only [ho, resolve, invoke, builtin, Sem.run_bind, Sem.run_pure, Result.andThen_ok, List.map_toArray, List.map_cons, List.map_nil, hs, hx, hr]
  exact hK _ _ h

set_option maxRecDepth 4000
/-- The parts that the list of heads names lie in rows of their own: the blocks S, in order. -/
def HeadsS (w : World) : List Hd → Fo → List Nat → Prop
  | [], .nil, S => S = []
  | x :: q, .cons kd sy n k r, S => ∃ S1 S2, S = S1 ++ S2 ∧ (x.kd = kd ∧ x.sy = sy ∧ x.n = n ∧ x.len = k.len) ∧ k.len ≤ maxLen ∧ OwnAt w x.a S1 k ∧ HeadsS w q r S2
  | [], .cons .., _ => False
  | _ :: _, .nil, _ => False
theorem HeadsS.len {w : World} : ∀ (q : List Hd) (F : Fo) (S : List Nat), HeadsS w q F S → q.length = F.len
  | [], .nil, _, _ => rfl
  | x :: q, .cons kd sy n k r, S, ⟨_, S2, _, _, _, _, h⟩ => by show q.length + 1 = r.len + 1; rw [HeadsS.len q r S2 h]
  | [], .cons .., _, h => h.elim
  | _ :: _, .nil, _, h => h.elim
theorem HeadsS.of_blocks {w w' : World} : ∀ (q : List Hd) (F : Fo) (S : List Nat), HeadsS w q F S → (∀ x ∈ S, w'.heap[x]? = w.heap[x]?) → HeadsS w' q F S
  | [], .nil, _, h, _ => h
  | x :: q, .cons kd sy n k r, S, ⟨S1, S2, e, h1, h2, h3, h4⟩, hb => by
    subst e
    exact ⟨S1, S2, rfl, h1, h2, h3.of_blocks (fun y hy => hb y (List.mem_append.2 (Or.inl hy))), HeadsS.of_blocks q r S2 h4 (fun y hy => hb y (List.mem_append.2 (Or.inr hy)))⟩
  | [], .cons .., _, h, _ => h.elim
  | _ :: _, .nil, _, h, _ => h.elim
theorem HeadsS.snoc {w : World} (x : Hd) (k : Fo) (T : List Nat) (hl : x.len = k.len) (hm : k.len ≤ maxLen) (hO : OwnAt w x.a T k) : ∀ (q : List Hd) (F : Fo) (S : List Nat), HeadsS w q F S → HeadsS w (q ++ [x]) (F.app (.cons x.kd x.sy x.n k .nil)) (S ++ T)
  | [], .nil, S, h => ⟨T, [], by rw [show S = [] from h]; simp, ⟨rfl, rfl, rfl, hl⟩, hm, hO, rfl⟩
  | y :: q, .cons kd sy n k' r, S, ⟨S1, S2, e, h1, h2, h3, h4⟩ => ⟨S1, S2 ++ T, by rw [e, List.append_assoc], h1, h2, h3, HeadsS.snoc x k T hl hm hO q r S2 h4⟩
  | [], .cons .., _, h => h.elim
  | _ :: _, .nil, _, h => h.elim
theorem HeadsS.own {w : World} : ∀ (q : List Hd) (F : Fo) (S : List Nat) (b off : Nat), HeadsS w q F S → (∀ j u, (hdCells q)[j]? = some u → w.cell? ⟨b, off + j, none⟩ = some u) → OwnKids w b off F.len S F
  | [], .nil, S, b, off, h, _ => OwnKids.zero.2 h
  | x :: q, .cons kd sy n k r, S, b, off, ⟨S1, S2, e, ⟨h1, h2, h3, hl⟩, hm, hO, h4⟩, hc => by
    subst h1; subst h2; subst h3
    refine ⟨S1, S2, e, ⟨hc 0 _ rfl, hc 1 _ rfl, hc 2 _ rfl⟩, ⟨x.a, x.cap, by rw [← hl]; exact hc 3 _ rfl, hm, hO.1, hO.2⟩, HeadsS.own q r S2 b (off + 4) h4 fun j u hj => ?_⟩
    have e : (hdCells (x :: q))[j + 4]? = (hdCells q)[j]? := by simp [hdCells]
    have := hc (j + 4) u (e.trans hj)
    rw [show off + 4 + j = off + (j + 4) by omega]; exact this
  | [], .cons .., _, _, _, h, _ => h.elim
  | _ :: _, .nil, _, _, _, h, _ => h.elim
/-- A row of one's own whose parts lie in rows of their own. -/
theorem own_row {w : World} {lo n cap : Nat} {a : Option Addr} {q : List Hd} {F : Fo} {S : List Nat} (h : w.ownsRow lo 25 4 (.slice a n cap) q.length (hdCells q)) (hh : HeadsS w q F S) (hnd : S.Nodup) (hS : ∀ x ∈ S, lo ≤ x ∧ x < w.heap.size ∧ some x ≠ (Value.slice a n cap).ownBlock) :
    ∃ T, OwnAt w a T F ∧ T.Nodup ∧ ∀ x ∈ T, lo ≤ x ∧ x < w.heap.size := by
  have hlen := hh.len
  rcases h.2 with ⟨e, h0⟩ | ⟨g, cap', cur, e, hb, hg, hn, hcm, hcs, htk⟩
  · exact ⟨[], ⟨fun _ => rfl, fun hl => by omega⟩, List.nodup_nil, fun x hx => by cases hx⟩
  · simp only [Value.slice.injEq] at e
    obtain ⟨rfl, _, _⟩ := e
    have hlt : g < w.heap.size := (Array.getElem?_eq_some_iff.1 hg).1
    by_cases h0 : F.len = 0
    · exact ⟨[], ⟨fun _ => rfl, fun hl => by omega⟩, List.nodup_nil, fun x hx => by cases hx⟩
    · refine ⟨g :: S, ⟨fun e => absurd e h0, fun _ => ⟨g, S, rfl, rfl, ⟨cur, _, hg⟩, hh.own q F S g 0 fun j u hj => ?_⟩⟩, List.nodup_cons.2 ⟨fun hm => (hS g hm).2.2 rfl, hnd⟩, ?_⟩
      · have hjl : j < q.length * 4 := by rw [← h.1]; exact (List.getElem?_eq_some_iff.1 hj).1
        rw [← htk, List.getElem?_take, if_pos hjl] at hj
        rw [Nat.zero_add, cell_at hg]
        rwa [Array.getElem?_toList] at hj
      · intro x hx
        rcases List.mem_cons.1 hx with rfl | hx
        · exact ⟨hb, hlt⟩
        · exact ⟨(hS x hx).1, (hS x hx).2.1⟩
end Go.Proofs.YtpokhhplgljmiaaDoor
