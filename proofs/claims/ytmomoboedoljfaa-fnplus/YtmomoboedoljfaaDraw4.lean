/- The laws' draws: a list, one in ten bent; a place; what is drawn can be read. -/
import Derived.Test.YtmomoboedoljfaaDraw3
namespace Go.Proofs.Ytmomoboedoljfaa
open Go.ChangeShapes Go.WideShapes Go.ChangeAt Go.RowKit
set_option linter.unusedVariables false
set_option maxRecDepth 4000

/-- One cell of a row of the call's own is written. -/
theorem row_cell {w : World} {B g n c : Nat} {t : TypeId} {xs : List Value} (h : w.ownsRow B t 3 (.slice (some ⟨g, 0, none⟩) n c) n xs) {j : Nat} (hj : j < n * 3) (v : Value) :
    (w.setCell ⟨g, j, none⟩ v).ownsRow B t 3 (.slice (some ⟨g, 0, none⟩) n c) n (xs.set j v) := by
  rcases h.2 with ⟨e, _⟩ | ⟨g', cap, cur, e, hb, hg, hnc, hcm, hcs, htk⟩
  · cases e
  · cases e
    refine ⟨by simpa using h.1, .inr ⟨g, c, cur.setIfInBounds j v, rfl, hb, heap_setCell_same _ _ _ _ _ _ hg, hnc, hcm, by simpa using hcs, ?_⟩⟩
    rw [Array.toList_setIfInBounds, List.take_set, htk]
theorem ocCells_set : ∀ (L : List OC) (k : Nat) (x' : OC) (f : Nat) (v : Value), f < 3 → (h : k < L.length) → L[k].v.set f v = x'.v → (ocCells L).set (k * 3 + f) v = ocCells (L.set k x')
  | x :: r, 0, x', f, v, hf, _, e => by
    have e1 : ocCells (x :: r) = x.v ++ ocCells r := by simp [ocCells]
    have e2 : ocCells ((x :: r).set 0 x') = x'.v ++ ocCells r := by simp [ocCells]
    have e3 : x.v.length = 3 := rfl
    rw [e1, e2, Nat.zero_mul, Nat.zero_add, List.set_append, if_pos (by omega)]
    simp only [List.getElem_cons_zero] at e
    rw [e]
  | x :: r, k + 1, x', f, v, hf, h, e => by
    have e1 : ocCells (x :: r) = x.v ++ ocCells r := by simp [ocCells]
    have e2 : ocCells ((x :: r).set (k + 1) x') = x.v ++ ocCells (r.set k x') := by simp [ocCells]
    have e3 : x.v.length = 3 := rfl
    rw [e1, e2, List.set_append, if_neg (by omega), e3, show (k + 1) * 3 + f - 3 = k * 3 + f by omega]
    rw [ocCells_set r k x' f v hf (by simpa using h) (by simpa using e)]

/-- Its numbers are ints, and they are not many. -/
def Occ.Wd (o : Occ) : Prop := o.Wf ∧ o.ids.length ≤ 24
/-- A list of the call's own whose places have rows of their own, some of them perhaps one and the same. -/
structure Loose (w : World) (B : Nat) (a : Option Addr) (c : Nat) (L : List OC) : Prop where
  row : w.ownsRow B 32 3 (.slice a L.length c) L.length (ocCells L)
  one : ∀ x ∈ L, IntOwn w B x.a x.o.ids
  off : ∀ x ∈ L, ∀ p, x.a = some p → p.block < w.heap.size ∧ (Value.slice a L.length c).ownBlock ≠ some p.block
/-- What is drawn: a list that can be read, whatever the reader does behind it. -/
def BentPost (w : World) (R p : Nat) (e : Ending) (w' : World) : Prop :=
  ∃ (a : Option Addr) (c p' : Nat) (l : List Occ), e = .returned (.slice a (List.length l) c) ∧ l.length ≤ 7 ∧ (∀ u : World, w'.heap.size ≤ u.heap.size → (∀ i, w.heap.size ≤ i → i < w'.heap.size → u.heap[i]? = w'.heap[i]?) → Occs u a l) ∧ (∀ q, a = some q → w.heap.size ≤ q.block) ∧ Rd w' R p' ∧ p' ≤ p + 200 ∧ w.grownBy w' (some R) ∧ (∀ o ∈ l, o.Wd) ∧ ∃ L : List OC, l = L.map (·.o) ∧ Loose w' w.heap.size a c L
theorem ok_wf0 {o : Occ} (h : o.Ok) : o.Wf := by
  have hs : Small o.ids := occOkB_small h
  have h' : occOkB o.fr o.tl o.ids = true := h
  simp only [occOkB, Bool.and_eq_true, decide_eq_true_eq] at h'
  refine ⟨?_, ?_, fun x hx => ?_⟩
  · unfold I64; omega
  · unfold I64; omega
  · have := hs x hx
    unfold I64; omega
theorem ok_wf {o : Occ} (h : o.Ok) : o.Wd := ⟨ok_wf0 h, h.good.2.1⟩
theorem IntOwn.late {w u : World} {B : Nat} {a : Option Addr} {l : List Int} (h : IntOwn w B a l) (hs : w.heap.size ≤ u.heap.size) (hu : ∀ i, B ≤ i → i < w.heap.size → u.heap[i]? = w.heap[i]?) : IntOwn u B a l := by
  refine ⟨h.len, h.ge, fun hl => ?_⟩
  obtain ⟨b, e, h1, h2, h3⟩ := h.row hl
  exact ⟨b, e, h1, by omega, h3.of_block (hu b h1 h2)⟩
theorem row_late {w u : World} {B n c m : Nat} {a : Option Addr} {t : TypeId} {xs : List Value} (h : w.ownsRow B t 3 (.slice a n c) m xs) (hs : w.heap.size ≤ u.heap.size) (hu : ∀ i, B ≤ i → i < w.heap.size → u.heap[i]? = w.heap[i]?) : u.ownsRow B t 3 (.slice a n c) m xs := by
  refine ⟨h.1, ?_⟩
  rcases h.2 with h1 | ⟨g, cap, cur, e, hb, hg, hr⟩
  · exact .inl h1
  · exact .inr ⟨g, cap, cur, e, hb, (hu g hb (Array.getElem?_eq_some_iff.1 hg).1).trans hg, hr⟩
theorem bent_of_row {w w' : World} {R p p' n c : Nat} {a : Option Addr} {L : List OC} (hrow : w'.ownsRow w.heap.size 32 3 (.slice a n c) L.length (ocCells L)) (hn : n = L.length) (hL : L.length ≤ 7) (hRB : R < w.heap.size) (hI : ∀ x ∈ L, IntOwn w' w.heap.size x.a x.o.ids)
    (hR : Rd w' R p') (hp : p' ≤ p + 200) (hg : w.grownBy w' (some R)) (hW : ∀ x ∈ L, x.o.Wd) (hoff : ∀ x ∈ L, ∀ p, x.a = some p → p.block < w'.heap.size ∧ (Value.slice a n c).ownBlock ≠ some p.block) : BentPost w R p (.returned (.slice a n c)) w' := by
  refine ⟨a, c, p', L.map (·.o), by rw [hn]; simp, by simpa using hL, fun u hs hu => ?_, fun q hq => by subst hq; exact (hrow.lt q.block rfl).1, hR, hp, hg, fun o ho => by
    obtain ⟨x, hx, rfl⟩ := List.mem_map.1 ho
    exact hW x hx, L, rfl, ⟨by subst hn; exact hrow, hI, by subst hn; exact hoff⟩⟩
  exact row_occs (row_late hrow hs hu) (fun x hx => ((hI x hx).late hs hu).ints)

/-- Numbers that are none. -/
def R0Post (w : World) (R p : Nat) (e : Ending) (w' : World) : Prop :=
  ∃ (a : Option Addr) (c : Nat) (l : List Int), e = .returned (.slice a (List.length l) c) ∧ IntOwn w' w.heap.size a l ∧ Rd w' R (p + 1) ∧ w.grownBy w' (some R) ∧ ((∀ x ∈ l, I64 x) ∧ l.length ≤ 24) ∧ ∀ q, a = some q → q.block < w'.heap.size
theorem own_lit {w : World} {B : Nat} (cs : List Int) (t : TypeId) (hB : B ≤ w.heap.size) (hc : cs.length ≤ 100) : IntOwn (w.alloc (.cells (intCells cs).toArray t)) B (some ⟨w.heap.size, 0, none⟩) cs := by
  refine IntOwn.of_row ⟨(intCells cs).toArray, t, heap_alloc_new w _, by simp [intCells], fun i hi => by simp [intCells, hi]⟩ hB (by unfold maxLen; omega)

set_option maxHeartbeats 1000000 in
theorem r0Ids_any (R p : Nat) (w : World) (h : Rd w R p) (hp : p < 90000) : Calls Try.prog 51 #[.pointer (some ⟨R, 0, none⟩)] w (R0Post w R p) := by
  go_enter Try.func51, Try.ntmps51
  go_wp2_with fail
  refine (pick_any R 3 p _ h (by omega) (by omega) (by omega)).mono ?_
  rintro e w1 ⟨v, rfl, _, hv, hR1, hg1⟩
  have hv' : (v : Int) < 3 := hv (by omega)
  have hv3 : v = 0 ∨ v = 1 ∨ v = 2 := by omega
  clear hv hv'
  have hfin : ∀ (cs : List Int) (t : TypeId), cs.length ≤ 100 → ((∀ x ∈ cs, I64 x) ∧ cs.length ≤ 24) → R0Post w R p (.returned (.slice (some ⟨w1.heap.size, 0, none⟩) cs.length cs.length)) (w1.alloc (.cells (intCells cs).toArray t)) := fun cs t hc hw =>
    ⟨_, _, cs, rfl, own_lit cs t hg1.size hc, hR1.below (oBelow_new _ _), grownBy_trans hg1 (grown_below (oBelow_new _ _)), hw, fun q hq => by cases hq; simp⟩
  rcases hv3 with rfl | rfl | rfl
  · go_wp2
    go_ret
    exact hfin [] _ (by simp) (by simp)
  · go_wp2
    go_ret
    exact hfin [2, 2] _ (by simp) (by simp [I64])
  · go_wp2
    go_ret
    exact hfin [24] _ (by simp) (by simp [I64])

theorem row_facts {w : World} {B g n c : Nat} {t : TypeId} {L : List OC} (h : w.ownsRow B t 3 (.slice (some ⟨g, 0, none⟩) n c) n (ocCells L)) (hn : L.length = n) {k : Nat} (hk : k < L.length) :
    (w.cell? ⟨g, k * 3, none⟩ = some (.int .i64 L[k].o.fr) ∧ w.cell? ⟨g, k * 3 + 1, none⟩ = some (.int .i64 L[k].o.tl) ∧ w.cell? ⟨g, k * 3 + 2, none⟩ = some (.slice L[k].a L[k].o.ids.length L[k].c)) ∧ (∀ o, w.frozen? ⟨g, o, none⟩ = false) ∧ B ≤ g ∧ g < w.heap.size := by
  rcases h.2 with ⟨e, _⟩ | ⟨g', cap, cur, e, hb, hg, hnc, hcm, hcs, htk⟩
  · cases e
  · cases e
    obtain ⟨h1, h2, h3⟩ := ocCells_get L k hk
    rw [← htk, List.getElem?_take, if_pos (by omega), Array.getElem?_toList] at h1 h2 h3
    exact ⟨⟨by rw [oCell hg]; exact h1, by rw [oCell hg]; exact h2, by rw [oCell hg]; exact h3⟩, fun o => by simp [World.frozen?, hg], hb, (Array.getElem?_eq_some_iff.1 hg).1⟩
/-- A cell of the list is written: what is drawn then. -/
theorem bent_store {w w4 : World} {R p p' g n c k f : Nat} {v : Value} {x' : OC} {L : List OC} (hO : OccsOwn w4 w.heap.size (.slice (some ⟨g, 0, none⟩) n c) L) (hn : L.length = n) (hk : k < L.length) (hf : f < 3) (he : L[k].v.set f v = x'.v)
    (hx : IntOwn w4 w.heap.size x'.a x'.o.ids) (hxg : ∀ q, x'.a = some q → q.block ≠ g) (hL : n ≤ 7) (hRl : R < w.heap.size) (hR : Rd w4 R p') (hp : p' ≤ p + 200) (hg : w.grownBy w4 (some R)) (hWL : ∀ x ∈ L, x.o.Wd) (hWx : x'.o.Wd) (hxl : ∀ q, x'.a = some q → q.block < w4.heap.size) :
    BentPost w R p (.returned (.slice (some ⟨g, 0, none⟩) n c)) (w4.setCell ⟨g, k * 3 + f, none⟩ v) := by
  have hrow : w4.ownsRow w.heap.size 32 3 (.slice (some ⟨g, 0, none⟩) n c) n (ocCells L) := by have := hO.row; rwa [hn] at this
  have hr := row_cell hrow (j := k * 3 + f) (by omega) v
  rw [ocCells_set L k x' f v hf hk he] at hr
  have hgg : w4.grownBy (w4.setCell ⟨g, k * 3 + f, none⟩ v) (some g) := grownBy_setCell (grownBy_refl _ _) _
  obtain ⟨_, _, hB, hgl⟩ := row_facts hrow hn hk
  refine bent_of_row (L := L.set k x') (by simpa [hn] using hr) (by simp [hn]) (by simp; omega) hRl (fun z hz => ?_) (hR.lower (B := g) (by omega) ((Below.refl _ _).grown hgg (by omega) (fun q hq => Nat.le_of_eq (by simpa using hq)))) hp ?_ (fun z hz => by
    rcases List.mem_or_eq_of_mem_set hz with hz | rfl
    · exact hWL z hz
    · exact hWx) (fun z hz q hq => by
    have hsz : w4.heap.size ≤ (w4.setCell ⟨g, k * 3 + f, none⟩ v).heap.size := hgg.size
    rcases List.mem_or_eq_of_mem_set hz with hz | rfl
    · exact ⟨Nat.lt_of_lt_of_le (hO.lt z hz q hq) hsz, hO.off z hz q hq⟩
    · exact ⟨Nat.lt_of_lt_of_le (hxl q hq) hsz, fun e => hxg q hq (Option.some.inj e).symm⟩)
  · rcases List.mem_or_eq_of_mem_set hz with hz | rfl
    · exact (hO.one z hz).only hgg (fun q hq e => hO.off z hz q hq e)
    · exact hx.only hgg (fun q hq e => hxg q hq (by simpa using e.symm))
  · exact ⟨hgg.os.trans hg.os, hgg.tape.trans hg.tape, hgg.output.trans hg.output, Nat.le_trans hg.size hgg.size, fun q hq hne => (hgg.block q (Nat.lt_of_lt_of_le hq hg.size) (fun e => absurd (show q = g by simpa using e) (by omega))).trans (hg.block q hq hne)⟩

set_option maxHeartbeats 1000000 in
theorem l3Bent_any (R p : Nat) (w : World) (h : Rd w R p) (hp : p ≤ 10000) : Calls Try.prog 30 #[.pointer (some ⟨R, 0, none⟩)] w (BentPost w R p) := by
  have hRl := h.lt
  go_enter Try.func30, Try.ntmps30
  go_wp2_with fail
  refine (l3Some_any R p 6 _ h (by omega) (by omega)).mono ?_
  rintro e w1 ⟨v1, L, p1, rfl, hO, hok, hL6, hR1, hp1, hg1⟩
  have HW : Hid (∀ x ∈ L, x.o.Wd) := fun x hx => ok_wf (hok x hx)
  obtain ⟨a, c, rfl⟩ := pOwns_slice hO.row
  obtain ⟨n, hn⟩ : ∃ n, L.length = n := ⟨_, rfl⟩
  have Hn : Hid (L.length = n) := hn
  rw [hn]
  have hn6 : n ≤ 6 := by omega
  clear hn
  by_cases h0 : n = 0
  · subst h0
    go_wp2
    go_ret
    have hrow := hO.row
    rw [Hn.out] at hrow
    exact bent_of_row (L := L) (by rw [Hn.out]; exact hrow) (by rw [Hn.out]) (by rw [Hn.out]; omega) hRl (fun x hx => hO.one x hx) hR1 (by omega) hg1 HW.out (fun x hx q hq => ⟨hO.lt x hx q hq, by have := hO.off x hx q hq; cases a <;> exact this⟩)
  · have hn0 : ¬ ((n : Int) = 0) := by omega
    have hnb : ((n : Int) == 0) = false := by simpa using h0
    go_wp2_with fail
    refine (pick_any R (n : Int) p1 _ hR1 (by omega) (by omega) (by omega)).mono ?_
    rintro e w2 ⟨k, rfl, _, hk, hR2, hg2⟩
    have hk' : k < n := by have := hk (by omega); omega
    clear hk
    have hO2 := hO.only hg2 hRl
    have hg02 := grownBy_trans hg1 hg2
    go_wp2_with fail
    refine (pick_any R 40 (p1 + 1) _ hR2 (by omega) (by omega) (by omega)).mono ?_
    rintro e w3 ⟨s, rfl, _, hs, hR3, hg3⟩
    have hs' : (s : Int) < 40 := hs (by omega)
    clear hs
    have hO3 := hO2.only hg3 hRl
    have hg03 := grownBy_trans hg02 hg3
    obtain ⟨g, rfl⟩ : ∃ g, a = some ⟨g, 0, none⟩ := by
      rcases hO3.row.2 with ⟨e, hn0⟩ | ⟨g, cap', cur, e, _⟩
      · have := Hn.out; omega
      · cases e; exact ⟨g, rfl⟩
    have hkL : k < L.length := by rw [Hn.out]; exact hk'
    have hO3n : OccsOwn w3 w.heap.size (.slice (some ⟨g, 0, none⟩) n c) L := by have := hO3; rwa [Hn.out] at this
    have hrow3 : w3.ownsRow w.heap.size 32 3 (.slice (some ⟨g, 0, none⟩) n c) n (ocCells L) := by have := hO3n.row; rwa [Hn.out] at this
    obtain ⟨⟨e0, e1, e2⟩, fz, hBg, hgl⟩ := row_facts hrow3 Hn.out hkL
    have hoK := hok L[k] (List.getElem_mem hkL)
    have htl : L[k].o.tl ≤ 2000 ∧ 1 ≤ L[k].o.tl := by
      have h' : occOkB L[k].o.fr L[k].o.tl L[k].o.ids = true := hoK
      simp only [occOkB, Bool.and_eq_true, decide_eq_true_eq] at h'
      omega
    have HWk : Hid (L[k].o.Wd) := ok_wf hoK
    have hxk := hO3n.one L[k] (List.getElem_mem hkL)
    have hxo := hO3n.off L[k] (List.getElem_mem hkL)
    obtain ⟨x, hx⟩ : ∃ x, L[k] = x := ⟨_, rfl⟩
    have Hx : Hid (L[k] = x) := hx
    rw [hx] at e0 e1 e2 htl hxk hxo HWk
    clear hx hoK hO hO2 hO3 hR1 hR2
    by_cases s0 : s = 0
    · subst s0
      have hal := oBelow_new w3 (.cells #[.int .i64 0, .int .i64 (x.o.tl + 1)] 3)
      have hlit := own_lit (w := w3) (B := w3.heap.size) [0, x.o.tl + 1] 3 (Nat.le_refl _) (by simp)
      have hs3 := hg03.size
      go_wp2_with fail
      refine (num_any R _ _ [0, x.o.tl + 1] (p1 + 1 + 1) _ (hR3.below hal) (by omega) hlit.ints (by simp) (by simp) (fun q hq => by cases hq; show w3.heap.size ≠ R; omega)).mono ?_
      rintro e w4 ⟨y, hy, rfl, hR4, hg4⟩
      have hO4 := (hO3n.below hal).only hg4 hRl
      have hg04 := grownBy_trans hg03 (grownBy_trans (grown_below hal) hg4)
      have hrow4 : w4.ownsRow w.heap.size 32 3 (.slice (some ⟨g, 0, none⟩) n c) n (ocCells L) := by have := hO4.row; rwa [Hn.out] at this
      obtain ⟨⟨i0, i1, i2⟩, fz4, _, _⟩ := row_facts hrow4 Hn.out hkL
      have hx4 := hO4.one L[k] (List.getElem_mem hkL)
      have hxo4 := hO4.off L[k] (List.getElem_mem hkL)
      rw [Hx.out] at i0 i1 i2 hx4 hxo4
      have hfin := bent_store (w := w) (R := R) (p := p) (p' := p1 + 1 + 1 + 1) (k := k) (f := 0) (v := .int .i64 y) (x' := ⟨⟨y, x.o.tl, x.o.ids⟩, x.a, x.c⟩) hO4 Hn.out hkL (by omega) (by rw [Hx.out]; rfl) hx4 (fun q hq e => hxo4 q hq (by rw [e]; rfl)) (by omega) hRl hR4 (by omega) hg04 HW.out ⟨⟨by
        simp only [List.mem_cons, List.not_mem_nil, or_false] at hy
        show I64 y
        unfold I64; omega, HWk.out.1.tl, HWk.out.1.ids⟩, HWk.out.2⟩ (fun q hq => by
        have := hO4.lt L[k] (List.getElem_mem hkL) q
        rw [Hx.out] at this
        exact this hq)
      clear e0 e1 e2 fz
      go_wp2
      go_ret
      exact hfin
    · by_cases s1 : s = 1
      · subst s1
        go_wp2_with fail
        refine (r0Ids_any R (p1 + 1 + 1) _ hR3 (by omega)).mono ?_
        rintro e w4 ⟨a4, c4, l4, rfl, hi4, hR4, hg4, hw4, hq4⟩
        have hO4 := hO3n.only hg4 hRl
        have hg04 := grownBy_trans hg03 hg4
        have hs3 := hg03.size
        have hrow4 : w4.ownsRow w.heap.size 32 3 (.slice (some ⟨g, 0, none⟩) n c) n (ocCells L) := by have := hO4.row; rwa [Hn.out] at this
        obtain ⟨⟨i0, i1, i2⟩, fz4, _, _⟩ := row_facts hrow4 Hn.out hkL
        rw [Hx.out] at i0 i1 i2
        have hi4' : IntOwn w4 w.heap.size a4 l4 := ⟨hi4.len, fun q hq => Nat.le_trans hs3 (hi4.ge q hq), fun hl => by
          obtain ⟨b, e, q1, q2⟩ := hi4.row hl
          exact ⟨b, e, Nat.le_trans hs3 q1, q2⟩⟩
        have hfin := bent_store (w := w) (R := R) (p := p) (p' := p1 + 1 + 1 + 1) (k := k) (f := 2) (v := .slice a4 l4.length c4) (x' := ⟨⟨x.o.fr, x.o.tl, l4⟩, a4, c4⟩) hO4 Hn.out hkL (by omega) (by rw [Hx.out]; rfl) hi4' (fun q hq e => by have := hi4.ge q hq; omega) (by omega) hRl hR4 (by omega) hg04 HW.out ⟨⟨HWk.out.1.fr, HWk.out.1.tl, hw4.1⟩, hw4.2⟩ hq4
        clear hq4 e0 hw4 e1 e2 fz
        go_wp2
        go_ret
        exact hfin
      · by_cases s2 : s = 2
        · subst s2
          obtain ⟨i0, hi, hz0, hz1, hz2⟩ := info_occ_parts
          have hpos : 0 < L.length := by rw [Hn.out]; omega
          obtain ⟨⟨j0, j1, j2⟩, _, _, _⟩ := row_facts hrow3 Hn.out hpos
          simp only [Nat.zero_mul, Nat.zero_add] at j0 j1 j2
          have hy0 := hO3n.one L[0] (List.getElem_mem hpos)
          obtain ⟨y, hy⟩ : ∃ y, L[0] = y := ⟨_, rfl⟩
          rw [hy] at j0 j1 j2 hy0
          have hal := oBelow_new w3 (.cells #[.int .i64 y.o.fr, .int .i64 y.o.tl, .slice y.a y.o.ids.length y.c] 32)
          have hs3 := hg03.size
          go_wp2_with (at_builtin; refine wpList_append_where rfl _ _ 23 rfl w.heap.size 32 i0 (.agg #[.int .i64 0, .int .i64 0, .slice none 0 0]) 3 40 Try.underlying23 hi hz0 hz1 hz2 rfl (by decide) (.slice (some ⟨g, 0, none⟩) n c) n (ocCells L) rfl ?own ⟨w3.heap.size, 0, none⟩ 1 1 y.v rfl rfl ?c1 ?c2 ?c3 ?c4 ?c5 ?_)
          case own => exact pOwns_below hrow3 hal
          case c1 => first | exact new_occ w3 y _ | exact fun j u hj => hj
          case c2 => exact ocv_one _
          case c3 => unfold maxLen; omega
          case c4 => omega
          case c5 => simp; omega
          intro v4 w4 r1 r2 r3
          obtain ⟨a4, c4, rfl⟩ := pOwns_slice r1
          have hsal : (w3.alloc (.cells #[.int .i64 y.o.fr, .int .i64 y.o.tl, .slice y.a y.o.ids.length y.c] 32)).heap.size = w3.heap.size + 1 := by simp
          have hb4 : Below w.heap.size (w3.alloc (.cells #[.int .i64 y.o.fr, .int .i64 y.o.tl, .slice y.a y.o.ids.length y.c] 32)) w4 := (Below.refl _ _).grown r2 (by omega) (fun q hq => (hrow3.lt q hq).1)
          have hR4 := (hR3.below hal).lower hRl hb4
          have hO4 : ∀ z ∈ L ++ [y], IntOwn w4 w.heap.size z.a z.o.ids := by
            intro z hz
            have hzL : z ∈ L := by
              rcases List.mem_append.1 hz with hz | hz
              · exact hz
              · simp at hz; rw [hz, ← hy]; exact List.getElem_mem hpos
            exact ((hO3n.one z hzL).below hal).only r2 (fun q hq e => hO3n.off z hzL q hq e)
          have hfin : BentPost w R p (.returned (.slice a4 (n + 1) c4)) w4 := by
            refine bent_of_row (L := L ++ [y]) (by rw [ocCells_snoc, List.length_append, Hn.out]; exact r1) (by simp [Hn.out]) (by simp [Hn.out]; omega) hRl (fun z hz => hO4 z hz) hR4 (by omega) ?_ (fun z hz => by
              rcases List.mem_append.1 hz with hz | hz
              · exact HW.out z hz
              · simp only [List.mem_singleton] at hz
                rw [hz, ← hy]
                exact HW.out _ (List.getElem_mem hpos)) (fun z hz q hq => by
              have hzL : z ∈ L := by
                rcases List.mem_append.1 hz with hz | hz
                · exact hz
                · simp only [List.mem_singleton] at hz
                  rw [hz, ← hy]; exact List.getElem_mem hpos
              have h1 := hO3n.lt z hzL q hq
              have h2 := hO3n.off z hzL q hq
              refine ⟨by have := r2.size; omega, fun e => ?_⟩
              rcases r3 _ e with h3 | h3
              · exact h2 h3
              · omega)
            have h1 := grownBy_trans hg03 (grown_below hal)
            exact ⟨hb4.os.trans h1.os, hb4.tape.trans h1.tape, hb4.output.trans h1.output, Nat.le_trans h1.size hb4.size, fun q hq hne => (hb4.block q hq).trans (h1.block q hq hne)⟩
          go_wp2
          go_ret
          exact hfin
        · by_cases s3 : s = 3
          · subst s3
            have hfin := bent_store (w := w) (R := R) (p := p) (p' := p1 + 1 + 1) (k := k) (f := 1) (v := .int .i64 2001) (x' := ⟨⟨x.o.fr, 2001, x.o.ids⟩, x.a, x.c⟩) hO3n Hn.out hkL (by omega) (by rw [Hx.out]; rfl) hxk (fun q hq e => hxo q hq (by rw [e]; rfl)) (by omega) hRl hR3 (by omega) hg03 HW.out ⟨⟨HWk.out.1.fr, by show I64 2001; unfold I64; omega, HWk.out.1.ids⟩, HWk.out.2⟩ (fun q hq => by
              have := hO3n.lt L[k] (List.getElem_mem hkL) q
              rw [Hx.out] at this
              exact this hq)
            go_wp2
            go_ret
            exact hfin
          · have b0 : ((s : Int) == 0) = false := by simp; omega
            have b1 : ((s : Int) == 1) = false := by simp; omega
            have b2 : ((s : Int) == 2) = false := by simp; omega
            have b3 : ((s : Int) == 3) = false := by simp; omega
            go_wp2
            go_ret
            exact bent_of_row (L := L) (by rw [Hn.out]; exact hrow3) (by rw [Hn.out]) (by rw [Hn.out]; omega) hRl (fun z hz => hO3n.one z hz) hR3 (by omega) hg03 HW.out (fun z hz q hq => ⟨hO3n.lt z hz q hq, hO3n.off z hz q hq⟩)
theorem loose_cap {w : World} {B c : Nat} {a : Option Addr} {L : List OC} (h : Loose w B a c L) : L.length ≤ c := by
  rcases h.row.2 with ⟨e, hn⟩ | ⟨g, cap, cur, e, _, _, hn, _⟩
  · omega
  · simp only [Value.slice.injEq] at e
    omega
end Go.Proofs.Ytmomoboedoljfaa
