/- Parts and graphs are copied by the laws: rows of the call's own. -/
import Derived.Test.YthlddehmebgfoaaNd2
namespace Go.Proofs.Ythlddehmebgfoaa
open Go.ChangeShapes Go.WideShapes Go.ChangeAt Go.RowKit Go.Deep
set_option linter.unusedVariables false
set_option maxRecDepth 4000

theorem info_node : (Try.prog.info? 95).map (fun i => (i.zero, i.size, i.bytes)) = some (some (.agg #[.int .i64 0, .int .i64 0, .int .i64 0, .slice none 0 0, .slice none 0 0, .slice none 0 0, .slice none 0 0, .slice none 0 0, .slice none 0 0, .int .i64 0]), 10, 176) := by kernel_rfl
def zerosNode (n : Nat) : Array Value := madeCells #[.int .i64 0, .int .i64 0, .int .i64 0, .slice none 0 0, .slice none 0 0, .slice none 0 0, .slice none 0 0, .slice none 0 0, .slice none 0 0, .int .i64 0] (n * 10)
theorem make_nodes (n : Nat) (hn : n ≤ 1048576) (w : World) :
    (Instr.makeSlice 48 (.int .i64 n) (.int .i64 n)).run Try.prog w = .ok (.slice (some ⟨w.heap.size, 0, none⟩) n n) (w.alloc (.cells (zerosNode n) 95)) := by
  have hi := info_node
  cases h : Try.prog.info? 95 with
  | none => rw [h] at hi; simp at hi
  | some i =>
    rw [h] at hi
    simp at hi
    obtain ⟨h1, h2, h3⟩ := hi
    have := run_make (P := Try.prog) w 48 95 i (.agg #[.int .i64 0, .int .i64 0, .int .i64 0, .slice none 0 0, .slice none 0 0, .slice none 0 0, .slice none 0 0, .slice none 0 0, .slice none 0 0, .int .i64 0]) Try.underlying48 h h1 .i64 .i64 n n (by omega) (by omega) (by rw [h3]; omega) (by omega)
    rw [this, h2]
    rfl

/-- From cell off on block b holds one, its lists in rows of the call's own from B on. -/
def NdHas (w : World) (B b off : Nat) (x : Nd) : Prop := ∃ p, Ten w b off x p ∧ NdOwn w B p x
theorem NdHas.move {w w' : World} {B b off : Nat} {x : Nd} (h : NdHas w B b off x) (hc : ∀ o, off ≤ o → o < off + 10 → w'.cell? ⟨b, o, none⟩ = w.cell? ⟨b, o, none⟩) (k : Keeps B w w') : NdHas w' B b off x := by
  obtain ⟨p, ⟨h0, h1, h2, h3, h4, h5, h6, h7, h8, h9⟩, ho⟩ := h
  exact ⟨p, ⟨(hc _ (by omega) (by omega)).trans h0, (hc _ (by omega) (by omega)).trans h1, (hc _ (by omega) (by omega)).trans h2, (hc _ (by omega) (by omega)).trans h3, (hc _ (by omega) (by omega)).trans h4,
    (hc _ (by omega) (by omega)).trans h5, (hc _ (by omega) (by omega)).trans h6, (hc _ (by omega) (by omega)).trans h7, (hc _ (by omega) (by omega)).trans h8, (hc _ (by omega) (by omega)).trans h9⟩, ho.keeps k⟩
theorem NdHas.rd {w : World} {B b off : Nat} {x : Nd} (h : NdHas w B b off x) : NdRd w b off x := by
  obtain ⟨p, ht, ho⟩ := h
  exact ht.rd ho.in

theorem NdHas.low {w : World} {B B' b off : Nat} {x : Nd} (h : NdHas w B b off x) (hB : B' ≤ B) : NdHas w B' b off x := by
  obtain ⟨p, ht, ho⟩ := h
  exact ⟨p, ht, ho.low hB⟩
/-- A row of parts, all in memory of the call's own from B on. -/
structure NdsHas (w : World) (B b : Nat) (l : List Nd) : Prop where
  blk : ∃ c t, w.heap[b]? = some (.cells c t (0, 0)) ∧ c.size = l.length * 10
  ge : B ≤ b
  len : l.length ≤ maxLen
  one : ∀ i (h : i < l.length), NdHas w B b (i * 10) l[i]
theorem NdsHas.lt {w : World} {B b : Nat} {l : List Nd} (h : NdsHas w B b l) : b < w.heap.size := by
  obtain ⟨c, t, hb, _⟩ := h.blk
  exact (Array.getElem?_eq_some_iff.1 hb).1
theorem NdsHas.keeps {w w' : World} {B b : Nat} {l : List Nd} (h : NdsHas w B b l) (k : Keeps B w w') : NdsHas w' B b l := by
  have hb := k.2 b h.ge h.lt
  obtain ⟨c, t, hc, hcs⟩ := h.blk
  exact ⟨⟨c, t, hb.trans hc, hcs⟩, h.ge, h.len, fun i hi => (h.one i hi).move (fun o _ _ => by simp [World.cell?, hb]) k⟩
theorem NdsHas.nds {w : World} {B b : Nat} {l : List Nd} (h : NdsHas w B b l) : Nds w (some ⟨b, 0, none⟩) l :=
  ⟨h.len, fun _ => ⟨b, 0, rfl, h.lt, fun i hi => by rw [Nat.zero_add]; exact (h.one i hi).rd⟩⟩
theorem NdsHas.low {w : World} {B B' b : Nat} {l : List Nd} (h : NdsHas w B b l) (hB : B' ≤ B) : NdsHas w B' b l :=
  ⟨h.blk, Nat.le_trans hB h.ge, h.len, fun i hi => (h.one i hi).low hB⟩

/-- What the copy of a list hands back: a row of its own. -/
def CopyNs (w : World) (l : List Nd) (e : Ending) (w' : World) : Prop :=
  e = .returned (.slice (some ⟨w.heap.size, 0, none⟩) l.length l.length) ∧ NdsHas w' w.heap.size w.heap.size l ∧ Below w.heap.size w w'

set_option maxHeartbeats 4000000 in
theorem toNodeS_any (a : Option Addr) (cap : Nat) (l : List Nd) (w : World) (h : Nds w a l) (hn : ndsSize l ≤ 1048576) :
    Calls Try.prog 64 #[.slice a l.length cap] w (CopyNs w l) := by
  have hse : ndsSize l = l.length + ndsTotal l := rfl
  have hmk := make_nodes l.length (by omega)
  have hln : l.length ≤ 1048576 := by omega
  go_enter Try.func64, Try.ntmps64
  go_wp2
  go_loopw [4] (fun i wr => ∃ k : Nat, k ≤ l.length ∧ i = .int .i64 k ∧ (∃ c t, wr.heap[w.heap.size]? = some (.cells c t (0, 0)) ∧ c.size = l.length * 10) ∧
      (∀ i (h : i < l.length), i < k → NdHas wr (w.heap.size + 1) w.heap.size (i * 10) l[i]) ∧ Below w.heap.size w wr ∧ w.heap.size < wr.heap.size) (fun i _ => l.length - (intOf i).toNat)
  case atStart =>
    exact ⟨0, Nat.zero_le _, rfl, ⟨zerosNode l.length, _, heap_alloc_new w _, by simp [zerosNode, size_madeCells]⟩, fun i h hi => by omega, (Below.refl _ _).alloc (Nat.le_refl _) _, by simp⟩
  case round =>
    obtain ⟨k, hk, rfl, ⟨c, t, hrow, hcs⟩, hO, hb, hz⟩ := hrel
    by_cases hlt : k < l.length
    · obtain ⟨b, off, p, rfl, hbl, ht, hids⟩ := (h.below hb).at hlt
      have hil : ndSize l[k] ≤ 1048576 := by have := ndsTotal_get hlt; omega
      have hO' : Hid (∀ i (h : i < l.length), i < k → NdHas wr (w.heap.size + 1) w.heap.size (i * 10) l[i]) := hO
      obtain ⟨o, ho⟩ : ∃ o, l[k] = o := ⟨_, rfl⟩
      have Ho : Hid (l[k] = o) := ho
      rw [ho] at ht hids hil
      clear hmk hse hO ho
      obtain ⟨q0, q1, q2, q3, q4, q5, q6, q7, q8, q9⟩ := ht
      go_wp2_with fail
      refine (toNode_any o p _ hids hil).mono ?_
      rintro e w1 ⟨p1, rfl, hown, hb1⟩
      clear q0 q1 q2 q3 q4 q5 q6 q7 q8 q9
      have hrow1 : w1.heap[w.heap.size]? = some (.cells c t (0, 0)) := (hb1.block _ hz).trans hrow
      have fz : ∀ o, w1.frozen? ⟨w.heap.size, o, none⟩ = false := fun o => by simp [World.frozen?, hrow1]
      have hold : ∀ j, j < 10 → ∃ y, w1.cell? ⟨w.heap.size, k * 10 + j, none⟩ = some y := fun j hj => ⟨c[k * 10 + j]'(by omega), by rw [oCell hrow1]; exact Array.getElem?_eq_getElem (by omega)⟩
      obtain ⟨y0, x0⟩ := hold 0 (by omega)
      obtain ⟨y1, x1⟩ := hold 1 (by omega)
      obtain ⟨y2, x2⟩ := hold 2 (by omega)
      obtain ⟨y3, x3⟩ := hold 3 (by omega)
      obtain ⟨y4, x4⟩ := hold 4 (by omega)
      obtain ⟨y5, x5⟩ := hold 5 (by omega)
      obtain ⟨y6, x6⟩ := hold 6 (by omega)
      obtain ⟨y7, x7⟩ := hold 7 (by omega)
      obtain ⟨y8, x8⟩ := hold 8 (by omega)
      obtain ⟨y9, x9⟩ := hold 9 (by omega)
      simp only [Nat.add_zero] at x0
      clear hold
      unfold ndV ndC
      go_wp2
      have st := (((((((((st_nil (k * 10) hrow1).snoc 0 rfl (by omega) (.int .i64 o.kd)).snoc 1 rfl (by omega) (.int .i64 o.sy)).snoc 2 rfl (by omega) (.int .i64 o.nn)).snoc 3 rfl (by omega) (.slice p1.a0 o.ks.length p1.c0)).snoc 4 rfl (by omega) (.slice p1.a1 o.pl.length p1.c1)).snoc 5 rfl (by omega) (.slice p1.a2 o.pr.length p1.c2)).snoc 6 rfl (by omega) (.slice p1.a3 o.sl.length p1.c3)).snoc 7 rfl (by omega) (.slice p1.a4 o.sm.length p1.c4)).snoc 8 rfl (by omega) (.slice p1.a5 o.du.length p1.c5)
      have st := st.snoc 9 rfl (by omega) (.int .i64 o.mn)
      simp only [Nat.add_zero] at st
      have hbe : Below w.heap.size w w1 := hb.trans (hb1.mono hb.size)
      have hs1 := hb1.size
      have hbz := (((((((((hbe.setCell (p := ⟨w.heap.size, k * 10, none⟩) (Nat.le_refl _) (.int .i64 o.kd)).setCell (p := ⟨w.heap.size, k * 10 + 1, none⟩) (Nat.le_refl _) (.int .i64 o.sy)).setCell (p := ⟨w.heap.size, k * 10 + 2, none⟩) (Nat.le_refl _) (.int .i64 o.nn)).setCell (p := ⟨w.heap.size, k * 10 + 3, none⟩) (Nat.le_refl _) (.slice p1.a0 o.ks.length p1.c0)).setCell (p := ⟨w.heap.size, k * 10 + 4, none⟩) (Nat.le_refl _) (.slice p1.a1 o.pl.length p1.c1)).setCell (p := ⟨w.heap.size, k * 10 + 5, none⟩) (Nat.le_refl _) (.slice p1.a2 o.pr.length p1.c2)).setCell (p := ⟨w.heap.size, k * 10 + 6, none⟩) (Nat.le_refl _) (.slice p1.a3 o.sl.length p1.c3)).setCell (p := ⟨w.heap.size, k * 10 + 7, none⟩) (Nat.le_refl _) (.slice p1.a4 o.sm.length p1.c4)).setCell (p := ⟨w.heap.size, k * 10 + 8, none⟩) (Nat.le_refl _) (.slice p1.a5 o.du.length p1.c5)).setCell (p := ⟨w.heap.size, k * 10 + 9, none⟩) (Nat.le_refl _) (.int .i64 o.mn)
      generalize (World.setCell _ ⟨w.heap.size, k * 10 + 9, none⟩ (.int .i64 o.mn)) = wz at st hbz ⊢
      have kz := st.keeps (B := w.heap.size + 1) (by omega)
      obtain ⟨⟨c', hr', hcs', hin, hout⟩, hoth, hsz⟩ := st
      refine ⟨⟨k + 1, by omega, by go_num, ⟨c', t, hr', by omega⟩, fun i hi hik => ?_, hbz, by omega⟩, by simp [intOf]; omega⟩
      by_cases hie : i = k
      · subst hie
        rw [Ho.out]
        have g : ∀ j v, ([.int .i64 o.kd, .int .i64 o.sy, .int .i64 o.nn, .slice p1.a0 o.ks.length p1.c0, .slice p1.a1 o.pl.length p1.c1, .slice p1.a2 o.pr.length p1.c2, .slice p1.a3 o.sl.length p1.c3, .slice p1.a4 o.sm.length p1.c4, .slice p1.a5 o.du.length p1.c5, .int .i64 o.mn] : List Value)[j]? = some v → wz.cell? ⟨w.heap.size, i * 10 + j, none⟩ = some v :=
          fun j v hj => (oCell hr' _).trans (hin j v hj)
        exact ⟨p1, ⟨g 0 _ rfl, g 1 _ rfl, g 2 _ rfl, g 3 _ rfl, g 4 _ rfl, g 5 _ rfl, g 6 _ rfl, g 7 _ rfl, g 8 _ rfl, g 9 _ rfl⟩, (hown.low (by omega)).keeps kz⟩
      · have hh := hO'.out i hi (by omega)
        refine (hh.move (fun q _ _ => hb1.cell hz) (Keeps.of_below hb1)).move (fun q hq1 hq2 => ?_) kz
        rw [oCell hr', oCell hrow1]
        exact hout q (by omega)
    · go_wp2
      go_ret
      obtain rfl : k = l.length := by omega
      exact ⟨rfl, ⟨⟨c, t, hrow, hcs⟩, Nat.le_refl _, h.len, fun i hi => (hO i hi hi).low (by omega)⟩, hb⟩
end Go.Proofs.Ythlddehmebgfoaa
