/- Where the plan of parts lies: a row of texts, a row of parts, a map by texts. -/
import Derived.Test.YtlopjljmnadhcaaDoorPlan
import Derived.Test.YtlopjljmnadhcaaDoorInts
import Derived.Test.YtlopjljmnadhcaaDoorExM1
import Derived.MapKept
namespace Go.Proofs.YtlopjljmnadhcaaDoor
open Go.ChangeShapes Go.WideShapes Go.ChangeAt Go.RowKit
set_option linter.unusedVariables false
set_option maxRecDepth 4000

/-- Of what was there none but the blocks X has turned. -/
structure Turn (X : Nat → Prop) (w w' : World) : Prop where
  os : w'.os = w.os
  tape : w'.tape = w.tape
  output : w'.output = w.output
  size : w.heap.size ≤ w'.heap.size
  same : ∀ b, b < w.heap.size → ¬ X b → w'.heap[b]? = w.heap[b]?
theorem Turn.refl (X : Nat → Prop) (w : World) : Turn X w w := ⟨rfl, rfl, rfl, Nat.le_refl _, fun _ _ _ => rfl⟩
theorem Turn.trans {X : Nat → Prop} {w w' w'' : World} (h : Turn X w w') (k : Turn X w' w'') : Turn X w w'' :=
  ⟨k.os.trans h.os, k.tape.trans h.tape, k.output.trans h.output, Nat.le_trans h.size k.size, fun b hb hx => (k.same b (Nat.lt_of_lt_of_le hb h.size) hx).trans (h.same b hb hx)⟩
/-- A later turn may reach what was made since. -/
theorem Turn.on {X Y : Nat → Prop} {w w' w'' : World} (h : Turn X w w') (k : Turn Y w' w'') (hxy : ∀ b, b < w.heap.size → Y b → X b) : Turn X w w'' :=
  ⟨k.os.trans h.os, k.tape.trans h.tape, k.output.trans h.output, Nat.le_trans h.size k.size, fun b hb hx => (k.same b (Nat.lt_of_lt_of_le hb h.size) (fun y => hx (hxy b hb y))).trans (h.same b hb hx)⟩
theorem Turn.of_below {X : Nat → Prop} {w w' : World} (h : Below w.heap.size w w') : Turn X w w' := ⟨h.os, h.tape, h.output, h.size, fun b hb _ => h.block b hb⟩
theorem Turn.of_grown {X : Nat → Prop} {w w' : World} {row : Option Nat} (h : w.grownBy w' row) (hx : ∀ b, row = some b → X b) : Turn X w w' :=
  ⟨h.os, h.tape, h.output, h.size, fun b hb hn => h.block b hb (fun e => hn (hx b e.symm))⟩
theorem Turn.set {X : Nat → Prop} (w : World) {b : Nat} (hx : X b) (o : Nat) (v : Value) : Turn X w (w.setCell ⟨b, o, none⟩ v) :=
  ⟨rfl, rfl, rfl, by simp, fun c _ hn => Below.heap_setCell _ _ _ _ (fun e => hn (by have : c = b := e; rw [this]; exact hx))⟩
theorem Turn.below {X : Nat → Prop} {B : Nat} {w w' : World} (h : Turn X w w') (hB : ∀ b, X b → B ≤ b) (hs : B ≤ w.heap.size) : Below B w w' :=
  ⟨h.os, h.tape, h.output, h.size, fun b hb => h.same b (by omega) (fun hx => by have := hB b hx; omega)⟩
theorem Turn.cell {X : Nat → Prop} {w w' : World} (h : Turn X w w') {p : Addr} (hp : p.block < w.heap.size) (hn : ¬ X p.block) : w'.cell? p = w.cell? p := World.cell?_of_block (h.same _ hp hn)

theorem gOwns_turn {w w' : World} {B : Nat} {e : TypeId} {z : Nat} {v : Value} {n : Nat} {xs : List Value} (h : w.ownsRow B e z v n xs) (hk : ∀ k, v.ownBlock = some k → w'.heap[k]? = w.heap[k]?) : w'.ownsRow B e z v n xs := by
  refine ⟨h.1, ?_⟩
  rcases h.2 with h' | ⟨g, cap, cur, rfl, hb, hg, r⟩
  · exact .inl h'
  · exact .inr ⟨g, cap, cur, rfl, hb, (hk g rfl).trans hg, r⟩
theorem gOwns_lt {w : World} {B : Nat} {e : TypeId} {z : Nat} {v : Value} {n : Nat} {xs : List Value} (h : w.ownsRow B e z v n xs) : ∀ k, v.ownBlock = some k → B ≤ k ∧ k < w.heap.size := by
  intro k hk
  rcases h.2 with ⟨rfl, _⟩ | ⟨g, cap, cur, rfl, hb, hg, r⟩
  · cases hk
  · cases hk; exact ⟨hb, (Array.getElem?_eq_some_iff.1 hg).1⟩
theorem gOwns_slice {w : World} {B : Nat} {e : TypeId} {z : Nat} {v : Value} {n : Nat} {xs : List Value} (h : w.ownsRow B e z v n xs) : ∃ a cap, v = .slice a n cap := by
  rcases h.2 with ⟨rfl, hn⟩ | ⟨g, cap, cur, rfl, _⟩
  · exact ⟨none, 0, by rw [hn]⟩
  · exact ⟨_, cap, rfl⟩
theorem gInt_turn {w w' : World} {B : Nat} {a : Option Addr} {l : List Int} (h : IntOwn w B a l) (hs : w.heap.size ≤ w'.heap.size) (hk : ∀ p, a = some p → w'.heap[p.block]? = w.heap[p.block]?) : IntOwn w' B a l := by
  refine ⟨h.len, h.ge, fun hl => ?_⟩
  obtain ⟨b, rfl, hB, hlt, hr⟩ := h.row hl
  exact ⟨b, rfl, hB, Nat.lt_of_lt_of_le hlt hs, hr.of_block (hk _ rfl)⟩

/-- A row of texts. -/
def txtCells (S : Pl) : List Value := S.map fun x => .string ⟨x.1.toArray⟩
structure Txts (w : World) (a : Option Addr) (S : Pl) : Prop where
  len : S.length ≤ maxLen
  cells : 0 < S.length → ∃ b off, a = some ⟨b, off, none⟩ ∧ b < w.heap.size ∧ ∀ i (h : i < S.length), w.cell? ⟨b, off + i, none⟩ = some (.string ⟨S[i].1.toArray⟩)
theorem txts_of {w : World} {B : Nat} {a : Option Addr} {n cap : Nat} {S : Pl} (h : w.ownsRow B 9 1 (.slice a n cap) S.length (txtCells S)) : Txts w a S := by
  rcases h.2 with ⟨e, hn⟩ | ⟨g, cap', cur, e, hb, hg, hnc, hcm, hcs, htk⟩
  · exact ⟨by omega, by omega⟩
  · cases e
    refine ⟨by omega, fun _ => ⟨g, 0, rfl, (Array.getElem?_eq_some_iff.1 hg).1, fun i hi => ?_⟩⟩
    have h1 : (txtCells S)[i]? = some (.string ⟨S[i].1.toArray⟩) := by simp [txtCells, hi]
    rw [← htk, List.getElem?_take, if_pos (by omega), Array.getElem?_toList] at h1
    rw [cell_at hg]
    simpa using h1

theorem str_yes {s u : ByteArray} (h : s = u) : (s.toList == u.toList) = true := by subst h; simp
theorem str_no {l m : List UInt8} (h : l ≠ m) : ((⟨l.toArray⟩ : ByteArray).toList == (⟨m.toArray⟩ : ByteArray).toList) = false := by
  rw [beq_eq_false_iff_ne, ByteArray.toList_eq, ByteArray.toList_eq]
  simpa using h

def idxV (t : List UInt8) (S : Pl) : Int := match idxT t S with
  | some i => (i : Int)
  | none => -1
set_option maxHeartbeats 1000000 in
theorem at_any (a : Option Addr) (cap : Nat) (S : Pl) (t : List UInt8) (w : World) (h : Txts w a S) :
    Calls Tryd.prog 32 #[.slice a S.length cap, .string ⟨t.toArray⟩] w fun e w' => e = .returned (.int .i64 (idxV t S)) ∧ w' = w := by
  have hn := h.len
  unfold maxLen at hn
  obtain ⟨G, hG⟩ : ∃ G, idxV t S = G := ⟨_, rfl⟩
  rw [hG]
  have HG : Hid (idxV t S = G) := hG
  clear hG
  obtain ⟨Y, hY⟩ : ∃ Y : ByteArray, (⟨t.toArray⟩ : ByteArray) = Y := ⟨_, rfl⟩
  have HY : Hid ((⟨t.toArray⟩ : ByteArray) = Y) := hY
  rw [hY]
  clear hY
  go_enter Tryd.func32, Tryd.ntmps32
  go_wp2
  go_loopw [5] (fun i wr => ∃ k : Nat, k ≤ S.length ∧ i = .int .i64 k ∧ Hid (∀ x ∈ S.take k, x.1 ≠ t) ∧ wr = w) (fun i _ => S.length - (intOf i).toNat)
  case atStart => exact ⟨0, Nat.zero_le _, rfl, by show ∀ x ∈ S.take 0, _; simp, rfl⟩
  case round =>
    obtain ⟨k, hk, rfl, hr, hwr⟩ := hrel
    subst hwr
    by_cases hlt : k < S.length
    · obtain ⟨b, off, rfl, hbl, hc⟩ := h.cells (by omega)
      have c0 := hc k hlt
      clear hc
      by_cases he : S[k].1 = t
      · have hi := idxT_stop hr.out hlt he
        have hv : Hid (idxV t S = (k : Int)) := by show _ = _; simp [idxV, hi]
        rw [he, HY.out] at c0
        clear he hi
        go_wp2
        go_ret
        exact ⟨by rw [← HG.out, hv.out]; rfl, by first | rfl | trivial⟩
      · have hne : ((⟨S[k].1.toArray⟩ : ByteArray).toList == Y.toList) = false := by rw [← HY.out]; exact str_no he
        have hr' : Hid (∀ x ∈ S.take (k + 1), x.1 ≠ t) := by
          show ∀ x ∈ S.take (k + 1), _
          intro x hx
          rw [List.take_succ_eq_append_getElem hlt] at hx
          rcases List.mem_append.1 hx with hx | hx
          · exact hr.out x hx
          · simp at hx; subst hx; exact he
        generalize (⟨S[k].1.toArray⟩ : ByteArray) = Z at c0 hne
        clear he
        go_wp2
        exact ⟨⟨k + 1, by omega, by go_num, hr', by first | rfl | trivial⟩, by simp [intOf]; omega⟩
    · have hi : idxT t S = none := idxT_all (by have := hr.out; rwa [List.take_of_length_le (by omega)] at this)
      have hv : Hid (idxV t S = -1) := by show _ = _; simp [idxV, hi]
      clear hi
      go_wp2
      go_ret
      exact ⟨by rw [← HG.out, hv.out]; rfl, by first | rfl | trivial⟩

/-- A part with the slice of its places. -/
structure GC where
  g : GN
  a : Option Addr
  c : Nat
def GC.v (x : GC) : List Value := [.int .i64 x.g.kd, .int .i64 x.g.sy, .int .i64 x.g.nn, .slice x.a x.g.ks.length x.c, .slice none 0 0, .slice none 0 0, .slice none 0 0, .slice none 0 0, .slice none 0 0, .int .i64 0]
def gcCells (L : List GC) : List Value := L.flatMap GC.v
theorem gcCells_length (L : List GC) : (gcCells L).length = L.length * 10 := by
  induction L with
  | nil => rfl
  | cons x r ih =>
    have e : gcCells (x :: r) = x.v ++ gcCells r := by simp [gcCells]
    have e3 : x.v.length = 10 := rfl
    rw [e, List.length_append, ih, e3, List.length_cons]
    omega
theorem gcCells_snoc (L : List GC) (x : GC) : gcCells (L ++ [x]) = gcCells L ++ x.v := by simp [gcCells]
theorem gcCells_get : ∀ (L : List GC) (i : Nat) (h : i < L.length) (j : Nat) (v : Value), (L[i].v)[j]? = some v → (gcCells L)[i * 10 + j]? = some v
  | x :: r, 0, _, j, v, hv => by
    have e : gcCells (x :: r) = x.v ++ gcCells r := by simp [gcCells]
    have hj : j < x.v.length := (List.getElem?_eq_some_iff.1 hv).1
    rw [e, Nat.zero_mul, Nat.zero_add, List.getElem?_append_left hj]
    exact hv
  | x :: r, i + 1, h, j, v, hv => by
    have ih := gcCells_get r i (by simpa using h) j v (by simpa using hv)
    have e : gcCells (x :: r) = x.v ++ gcCells r := by simp [gcCells]
    rw [e, show (i + 1) * 10 + j = x.v.length + (i * 10 + j) by show _ = 10 + _; omega, List.getElem?_append_right (by omega)]
    simpa using ih
def GC.Apart (x y : GC) : Prop := ∀ p q, x.a = some p → y.a = some q → p.block ≠ q.block
/-- The slice v is a row of the call's own, from B on: the parts L, the places of each in a row of their own. -/
structure GcOwn (w : World) (B : Nat) (v : Value) (L : List GC) : Prop where
  row : w.ownsRow B 69 10 v L.length (gcCells L)
  one : ∀ x ∈ L, IntOwn w B x.a x.g.ks
  lt : ∀ x ∈ L, ∀ p, x.a = some p → p.block < w.heap.size
  off : ∀ x ∈ L, ∀ p, x.a = some p → v.ownBlock ≠ some p.block
  apart : L.Pairwise GC.Apart
/-- The blocks of a row of parts. -/
def gcBlk (v : Value) (L : List GC) (b : Nat) : Prop := v.ownBlock = some b ∨ ∃ x ∈ L, ∃ p, x.a = some p ∧ p.block = b
theorem GcOwn.keep {w w' : World} {B : Nat} {v : Value} {L : List GC} (h : GcOwn w B v L) (hs : w.heap.size ≤ w'.heap.size) (hk : ∀ b, gcBlk v L b → w'.heap[b]? = w.heap[b]?) : GcOwn w' B v L :=
  ⟨gOwns_turn h.row (fun k e => hk k (.inl e)), fun x hx => gInt_turn (h.one x hx) hs (fun p hp => hk _ (.inr ⟨x, hx, p, hp, rfl⟩)), fun x hx p hp => Nat.lt_of_lt_of_le (h.lt x hx p hp) hs, h.off, h.apart⟩
theorem GcOwn.blk_lt {w : World} {B : Nat} {v : Value} {L : List GC} (h : GcOwn w B v L) {b : Nat} (hb : gcBlk v L b) : B ≤ b ∧ b < w.heap.size := by
  rcases hb with hb | ⟨x, hx, p, hp, rfl⟩
  · exact gOwns_lt h.row b hb
  · exact ⟨(h.one x hx).ge p hp, h.lt x hx p hp⟩
theorem GcOwn.below {w w' : World} {B : Nat} {v : Value} {L : List GC} (h : GcOwn w B v L) (hb : Below w.heap.size w w') : GcOwn w' B v L :=
  h.keep hb.size (fun b hx => hb.block b (h.blk_lt hx).2)
theorem GcOwn.nil (w : World) (B : Nat) : GcOwn w B (.slice none 0 0) [] := ⟨World.ownsRow_nil _ _ _ _, by simp, by simp, by simp, List.Pairwise.nil⟩
/-- One more behind the others. -/
theorem GcOwn.snoc {w w' : World} {B : Nat} {v v' : Value} {L : List GC} {x : GC} (h : GcOwn w B v L) (hx : IntOwn w B x.a x.g.ks) (hxl : ∀ p, x.a = some p → p.block < w.heap.size) (hxo : ∀ p, x.a = some p → v.ownBlock ≠ some p.block)
    (hxa : ∀ y ∈ L, y.Apart x) (r1 : w'.ownsRow B 69 10 v' (L.length + 1) (gcCells L ++ x.v)) (r2 : w.grownBy w' v.ownBlock) (r3 : ∀ k, v'.ownBlock = some k → v.ownBlock = some k ∨ w.heap.size ≤ k) : GcOwn w' B v' (L ++ [x]) := by
  have hmem : ∀ y ∈ L ++ [x], IntOwn w B y.a y.g.ks ∧ (∀ p, y.a = some p → p.block < w.heap.size) ∧ (∀ p, y.a = some p → v.ownBlock ≠ some p.block) := by
    intro y hy
    rcases List.mem_append.1 hy with hy | hy
    · exact ⟨h.one y hy, h.lt y hy, h.off y hy⟩
    · simp at hy; subst hy; exact ⟨hx, hxl, hxo⟩
  refine ⟨by rw [gcCells_snoc, List.length_append]; exact r1, fun y hy => (hmem y hy).1.only r2 (fun p hp => (hmem y hy).2.2 p hp), fun y hy p hp => Nat.lt_of_lt_of_le ((hmem y hy).2.1 p hp) r2.size, fun y hy p hp e => ?_, ?_⟩
  · rcases r3 _ e with h1 | h1
    · exact (hmem y hy).2.2 p hp h1
    · have := (hmem y hy).2.1 p hp; omega
  · refine List.pairwise_append.2 ⟨h.apart, List.pairwise_singleton _ _, fun y hy z hz => ?_⟩
    simp at hz
    subst hz
    exact hxa y hy
end Go.Proofs.YtlopjljmnadhcaaDoor
