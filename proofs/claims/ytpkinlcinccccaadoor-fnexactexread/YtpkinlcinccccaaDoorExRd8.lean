/- One part with all its kids, as the program takes it from the words. -/
import Derived.Test.YtpkinlcinccccaaDoorExRd7
import Derived.Test.YtpkinlcinccccaaDoorEx8
import Derived.Deep.Cut
import Derived.Deep.RegionLaw
namespace Go.Proofs.YtpkinlcinccccaaDoor
open Go.ChangeShapes Go.WideShapes Go.ChangeAt Go.RowKit
set_option linter.unusedVariables false
set_option maxRecDepth 4000
/-- The parts that the list of heads names lie in rows of their own: the blocks S, in order. -/
def HeadsS (w : World) : List Hd → Fo → List Nat → Prop
  | [], .nil, S => S = []
  | x :: q, .cons kd sy n k r, S => ∃ S1 S2, S = S1 ++ S2 ∧ (x.kd = kd ∧ x.sy = sy ∧ x.n = n ∧ x.len = k.len) ∧ k.len ≤ maxLen ∧ OwnAt w x.a S1 k ∧ HeadsS w q r S2
  | [], .cons .., _ => False
  | _ :: _, .nil, _ => False
theorem HeadsS.len {w : World} : ∀ (q : List Hd) (F : Fo) (S : List Nat), HeadsS w q F S → q.length = F.len
  | [], .nil, _, _ => rfl
  | x :: q, .cons kd sy n k r, S, ⟨_, S2, _, _, _, _, h⟩ => by show q.length + 1 = r.len + 1; rw [HeadsS.len q r S2 h]
  | [], .cons .., _, h => h.elim
  | _ :: _, .nil, _, h => h.elim
theorem HeadsS.of_blocks {w w' : World} : ∀ (q : List Hd) (F : Fo) (S : List Nat), HeadsS w q F S → (∀ x ∈ S, w'.heap[x]? = w.heap[x]?) → HeadsS w' q F S
  | [], .nil, _, h, _ => h
  | x :: q, .cons kd sy n k r, S, ⟨S1, S2, e, h1, h2, h3, h4⟩, hb => by
    subst e
    exact ⟨S1, S2, rfl, h1, h2, h3.of_blocks (fun y hy => hb y (List.mem_append.2 (Or.inl hy))), HeadsS.of_blocks q r S2 h4 (fun y hy => hb y (List.mem_append.2 (Or.inr hy)))⟩
  | [], .cons .., _, h, _ => h.elim
  | _ :: _, .nil, _, h, _ => h.elim
theorem HeadsS.snoc {w : World} (x : Hd) (k : Fo) (T : List Nat) (hl : x.len = k.len) (hm : k.len ≤ maxLen) (hO : OwnAt w x.a T k) : ∀ (q : List Hd) (F : Fo) (S : List Nat), HeadsS w q F S → HeadsS w (q ++ [x]) (F.app (.cons x.kd x.sy x.n k .nil)) (S ++ T)
  | [], .nil, S, h => ⟨T, [], by rw [show S = [] from h]; simp, ⟨rfl, rfl, rfl, hl⟩, hm, hO, rfl⟩
  | y :: q, .cons kd sy n k' r, S, ⟨S1, S2, e, h1, h2, h3, h4⟩ => ⟨S1, S2 ++ T, by rw [e, List.append_assoc], h1, h2, h3, HeadsS.snoc x k T hl hm hO q r S2 h4⟩
  | [], .cons .., _, h => h.elim
  | _ :: _, .nil, _, h => h.elim
theorem HeadsS.own {w : World} : ∀ (q : List Hd) (F : Fo) (S : List Nat) (b off : Nat), HeadsS w q F S → (∀ j u, (hdCells q)[j]? = some u → w.cell? ⟨b, off + j, none⟩ = some u) → OwnKids w b off F.len S F
  | [], .nil, S, b, off, h, _ => OwnKids.zero.2 h
  | x :: q, .cons kd sy n k r, S, b, off, ⟨S1, S2, e, ⟨h1, h2, h3, hl⟩, hm, hO, h4⟩, hc => by
    subst h1; subst h2; subst h3
    refine ⟨S1, S2, e, ⟨hc 0 _ rfl, hc 1 _ rfl, hc 2 _ rfl⟩, ⟨x.a, x.cap, by rw [← hl]; exact hc 3 _ rfl, hm, hO.1, hO.2⟩, HeadsS.own q r S2 b (off + 4) h4 fun j u hj => ?_⟩
    have e : (hdCells (x :: q))[j + 4]? = (hdCells q)[j]? := by simp [hdCells]
    have := hc (j + 4) u (e.trans hj)
    rw [show off + 4 + j = off + (j + 4) by omega]; exact this
  | [], .cons .., _, _, _, h, _ => h.elim
  | _ :: _, .nil, _, _, _, h, _ => h.elim
/-- A row of one's own whose parts lie in rows of their own. -/
theorem own_row {w : World} {lo n cap : Nat} {a : Option Addr} {q : List Hd} {F : Fo} {S : List Nat} (h : w.ownsRow lo 29 4 (.slice a n cap) q.length (hdCells q)) (hh : HeadsS w q F S) (hnd : S.Nodup) (hS : ∀ x ∈ S, lo ≤ x ∧ x < w.heap.size ∧ some x ≠ (Value.slice a n cap).ownBlock) :
    ∃ T, OwnAt w a T F ∧ T.Nodup ∧ ∀ x ∈ T, lo ≤ x ∧ x < w.heap.size := by
  have hlen := hh.len
  rcases h.2 with ⟨e, h0⟩ | ⟨g, cap', cur, e, hb, hg, hn, hcm, hcs, htk⟩
  · exact ⟨[], ⟨fun _ => rfl, fun hl => by omega⟩, List.nodup_nil, fun x hx => by cases hx⟩
  · simp only [Value.slice.injEq] at e
    obtain ⟨rfl, _, _⟩ := e
    have hlt : g < w.heap.size := (Array.getElem?_eq_some_iff.1 hg).1
    by_cases h0 : F.len = 0
    · exact ⟨[], ⟨fun _ => rfl, fun hl => by omega⟩, List.nodup_nil, fun x hx => by cases hx⟩
    · refine ⟨g :: S, ⟨fun e => absurd e h0, fun _ => ⟨g, S, rfl, rfl, ⟨cur, _, hg⟩, hh.own q F S g 0 fun j u hj => ?_⟩⟩, List.nodup_cons.2 ⟨fun hm => (hS g hm).2.2 rfl, hnd⟩, ?_⟩
      · have hjl : j < q.length * 4 := by rw [← h.1]; exact (List.getElem?_eq_some_iff.1 hj).1
        rw [← htk, List.getElem?_take, if_pos hjl] at hj
        rw [Nat.zero_add, cell_at hg]
        rwa [Array.getElem?_toList] at hj
      · intro x hx
        rcases List.mem_cons.1 hx with rfl | hx
        · exact ⟨hb, hlt⟩
        · exact ⟨(hS x hx).1, (hS x hx).2.1⟩
/-- How far the kids are read. -/
def KidsA (ps : List ByteArray) (d K : Nat) (r0 : List Wd) (j m : Nat) (G : Fo) : Prop :=
  scanK numA d K r0 = (scanK numA d m ((ps.map bs).drop j)).map fun x => (G.app x.1, x.2)
theorem KidsA.bad {ps : List ByteArray} {d K j m : Nat} {r0 : List Wd} {G : Fo} (h : KidsA ps d K r0 j (m + 1) G) (hn : scanK numA d 1 ((ps.map bs).drop j) = none) : scanK numA d K r0 = none := by
  rw [h, scan_bad m hn]; rfl
theorem KidsA.step {ps : List ByteArray} {d K j m j' : Nat} {r0 : List Wd} {G F : Fo} {kd sy n : Int} (h : KidsA ps d K r0 j (m + 1) G) (hn : scanK numA d 1 ((ps.map bs).drop j) = some (.cons kd sy n F .nil, (ps.map bs).drop j')) : KidsA ps d K r0 j' m (G.app (.cons kd sy n F .nil)) := by
  unfold KidsA at h ⊢
  rw [h, scan_one m hn, Option.map_map]
  congr 1
  funext x
  simp only [Function.comp, Fo.app_app]
  rfl
theorem KidsA.done {ps : List ByteArray} {d K j : Nat} {r0 : List Wd} {G : Fo} (h : KidsA ps d K r0 j 0 G) : scanK numA d K r0 = some (G, (ps.map bs).drop j) := by
  rw [h, scanK_zero]
  simp [Fo.app_nil]
/-- What a part hands back where the words tell one. -/
def PartYes (ps : List ByteArray) (Bw g i d : Nat) (w : World) (e : Ending) (w' : World) : Prop :=
  ∃ (kd sy n : Int) (a : Option Addr) (cap : Nat) (F : Fo) (j : Nat) (S : List Nat), Hid (scanK numA d 1 ((ps.map bs).drop i) = some (.cons kd sy n F .nil, (ps.map bs).drop j)) ∧ i < j ∧ j ≤ ps.length ∧
    e = .returned (.agg #[.int .i64 kd, .int .i64 sy, .int .i64 n, .slice a F.len cap]) ∧ Left w' Bw g ps j ∧ OwnAt w' a S F ∧ S.Nodup ∧ (∀ x ∈ S, w.heap.size ≤ x ∧ x < w'.heap.size) ∧ F.len ≤ 3
def PartPost (ps : List ByteArray) (Bw g i d : Nat) (t : TypeId) (v : Value) (w : World) (e : Ending) (w' : World) : Prop :=
  w.grownBy w' (some Bw) ∧ ((Hid (scanK numA d 1 ((ps.map bs).drop i) = none) ∧ e = .panicked [{ v := .iface t v, recovered := false }]) ∨ PartYes ps Bw g i d w e w')
theorem ErrAt.grown {w w' : World} {t : TypeId} {v : Value} {r : Option Nat} (h : ErrAt w t v) (hg : w.grownBy w' r) (hr : r ≠ some 0) : ErrAt w' t v := by
  show w'.cell? _ = _
  rw [World.cell?_of_block (w := w) (a := ⟨0, 0, none⟩) (hg.5 _ h.lt (fun e => hr e.symm))]
  exact h
end Go.Proofs.YtpkinlcinccccaaDoor
