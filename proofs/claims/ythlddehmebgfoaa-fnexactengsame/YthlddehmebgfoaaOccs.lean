/- Lists of places: the laws' helpers. -/
import Derived.Test.YthlddehmebgfoaaOccBox
import Derived.Laws.MakeOwn
namespace Go.Proofs.Ythlddehmebgfoaa
open Go.ChangeShapes Go.WideShapes Go.ChangeAt Go.RowKit
set_option linter.unusedVariables false
set_option maxRecDepth 4000

/-- How many numbers they hold together. -/
def idsTotal : List Occ → Nat
  | [] => 0
  | o :: r => o.ids.length + idsTotal r
theorem idsTotal_step {l : List Occ} {k : Nat} (h : k < l.length) : idsTotal (l.drop k) = l[k].ids.length + idsTotal (l.drop (k + 1)) := by rw [List.drop_eq_getElem_cons h]; rfl
theorem idsTotal_end {l : List Occ} {k : Nat} (h : ¬ k < l.length) : idsTotal (l.drop k) = 0 := by rw [List.drop_eq_nil_of_le (by omega)]; rfl
theorem idsTotal_get : ∀ {l : List Occ} {k : Nat} (h : k < l.length), l[k].ids.length ≤ idsTotal l
  | o :: r, 0, _ => by simp [idsTotal]
  | o :: r, k + 1, h => by have := idsTotal_get (l := r) (k := k) (by simpa using h); simp [idsTotal]; omega
def occsSize (l : List Occ) : Nat := l.length + idsTotal l

/-- One of the list: what a round of a loop wants of it. -/
theorem Occs.at {w : World} {a : Option Addr} {l : List Occ} (h : Occs w a l) {k : Nat} (hk : k < l.length) :
    ∃ b off a' cap', a = some ⟨b, off, none⟩ ∧ b < w.heap.size ∧ w.cell? ⟨b, off + k * 3, none⟩ = some (.int .i64 l[k].fr) ∧ w.cell? ⟨b, off + k * 3 + 1, none⟩ = some (.int .i64 l[k].tl) ∧
      w.cell? ⟨b, off + k * 3 + 2, none⟩ = some (.slice a' l[k].ids.length cap') ∧ Ints w a' l[k].ids := by
  obtain ⟨b, off, ha, hlt, hc⟩ := h.cells (by omega)
  obtain ⟨h1, h2, a', cap', h3, h4⟩ := hc k hk
  exact ⟨b, off, a', cap', ha, hlt, h1, h2, h3, h4⟩

set_option maxHeartbeats 400000 in
theorem szOccS_any (a : Option Addr) (cap : Nat) (l : List Occ) (left : Int) (w : World) (h : Occs w a l) (h0 : 0 ≤ left) (h1 : left ≤ 1048576) :
    Calls Try.prog 88 #[.slice a l.length cap, .int .i64 left] w fun e w' => e = .returned (.int .i64 (szDown left (occsSize l))) ∧ Below w.heap.size w w' := by
  have hn := h.len
  unfold maxLen at hn
  have hse : occsSize l = l.length + idsTotal l := rfl
  by_cases hl : left - l.length < 0
  · have hz : szDown left (occsSize l) = -1 := if_pos (by omega)
    rw [hz]
    clear hse
    go_enter Try.func88, Try.ntmps88
    go_wp2
    go_ret
    exact ⟨rfl, Below.refl _ _⟩
  · obtain ⟨G, hG⟩ : ∃ G, szDown left (occsSize l) = G := ⟨_, rfl⟩
    rw [hG]
    have hse' : Hid (occsSize l = l.length + idsTotal l) := hse
    clear hse
    go_enter Try.func88, Try.ntmps88
    go_wp2
    go_loopw [1, 5] (fun c i wr => ∃ k : Nat, ∃ cur : Int, k ≤ l.length ∧ i = .int .i64 k ∧ c = .int .i64 cur ∧ 0 ≤ cur ∧ cur ≤ 1048576 ∧ Hid (cur - (idsTotal (l.drop k) : Int) = left - occsSize l) ∧ Below w.heap.size w wr) (fun _ i _ => l.length - (intOf i).toNat)
    case atStart => exact ⟨0, _, Nat.zero_le _, rfl, rfl, by omega, by omega, by show _ = _; have := hse'.out; rw [List.drop_zero]; omega, Below.refl _ _⟩
    case round =>
      obtain ⟨k, cur, hk, rfl, rfl, hc0, hc1, hr, hb⟩ := hrel
      by_cases hlt : k < l.length
      · obtain ⟨b, off, a', cap', rfl, hbl, c0, c1, c2, hids⟩ := (h.below hb).at hlt
        have hin : Hid (idsTotal (l.drop k) = _) := idsTotal_step hlt
        generalize l[k] = o at c0 c1 c2 hids hin
        have hil := hids.len
        by_cases hneg : cur - o.ids.length < 0
        · have hz : szDown cur o.ids.length = -1 := if_pos hneg
          have hz' : Hid (szDown left (occsSize l) = -1) := by
            show _ = _
            have := hr.out; have := hin.out
            exact if_pos (by omega)
          go_wp2_with fail
          refine (szOcc_any _ _ a' _ cap' cur _ hil hc0 hc1).mono ?_
          rintro e w1 ⟨rfl, hb1⟩
          rw [hz]
          go_wp2
          go_ret
          exact ⟨by rw [← hG, hz'.out]; rfl, hb.trans (hb1.mono hb.size)⟩
        · have hz : szDown cur o.ids.length = cur - o.ids.length := if_neg hneg
          have hge : ¬ (cur - (o.ids.length : Int) < 0) := hneg
          go_wp2_with fail
          refine (szOcc_any _ _ a' _ cap' cur _ hil hc0 hc1).mono ?_
          rintro e w1 ⟨rfl, hb1⟩
          rw [hz]
          go_wp2
          refine ⟨⟨k + 1, _, by omega, by go_num, rfl, by omega, by omega, ?_, hb.trans (hb1.mono hb.size)⟩, by simp [intOf]; omega⟩
          show _ = _
          have := hr.out; have := hin.out
          omega
      · have hz' : Hid (szDown left (occsSize l) = cur) := by
          show _ = _
          have := hr.out
          rw [idsTotal_end hlt] at this
          unfold szDown
          rw [if_neg (by omega)]; omega
        go_wp2
        go_ret
        exact ⟨by rw [← hG, hz'.out]; rfl, hb⟩

/-- From cell off on block b holds one, its numbers in a row of their own: the block x.2. -/
def OneOwn (w : World) (B b off : Nat) (x : Occ × Nat) : Prop :=
  w.cell? ⟨b, off, none⟩ = some (.int .i64 x.1.fr) ∧ w.cell? ⟨b, off + 1, none⟩ = some (.int .i64 x.1.tl) ∧ ∃ a cap, w.cell? ⟨b, off + 2, none⟩ = some (.slice a x.1.ids.length cap) ∧ x.1.ids.length ≤ maxLen ∧
    (0 < x.1.ids.length → a = some ⟨x.2, 0, none⟩ ∧ x.2 ≠ b ∧ B ≤ x.2 ∧ x.2 < w.heap.size ∧ IntRow w x.2 x.1.ids)
/-- Two whose numbers, if there are any, lie in two rows. -/
def Apart (x y : Occ × Nat) : Prop := 0 < x.1.ids.length → 0 < y.1.ids.length → x.2 ≠ y.2
/-- Block b is a row of its own that holds the first places L, the numbers of each in a row of their own; all are from B on. -/
structure OccRow (w : World) (B b : Nat) (L : List (Occ × Nat)) : Prop where
  blk : ∃ c t, w.heap[b]? = some (.cells c t (0, 0)) ∧ L.length * 3 ≤ c.size
  ge : B ≤ b
  one : ∀ i (h : i < L.length), OneOwn w B b (i * 3) L[i]
  apart : L.Pairwise Apart
  len : L.length ≤ maxLen

theorem OneOwn.frame {w w' : World} {B b off : Nat} {x : Occ × Nat} (h : OneOwn w B b off x) (hc : ∀ o, off ≤ o → o < off + 3 → w'.cell? ⟨b, o, none⟩ = w.cell? ⟨b, o, none⟩)
    (hx : 0 < x.1.ids.length → w'.heap[x.2]? = w.heap[x.2]?) (hs : w.heap.size ≤ w'.heap.size) : OneOwn w' B b off x := by
  obtain ⟨h1, h2, a, cap, h3, h4, h5⟩ := h
  refine ⟨(hc _ (by omega) (by omega)).trans h1, (hc _ (by omega) (by omega)).trans h2, a, cap, (hc _ (by omega) (by omega)).trans h3, h4, fun hp => ?_⟩
  obtain ⟨g1, g2, g3, g4, g5⟩ := h5 hp
  exact ⟨g1, g2, g3, by omega, g5.of_block (hx hp)⟩
theorem OneOwn.low {w : World} {B B' b off : Nat} {x : Occ × Nat} (h : OneOwn w B b off x) (hB : B' ≤ B) : OneOwn w B' b off x := by
  obtain ⟨h1, h2, a, cap, h3, h4, h5⟩ := h
  refine ⟨h1, h2, a, cap, h3, h4, fun hp => ?_⟩
  obtain ⟨g1, g2, g3, g4, g5⟩ := h5 hp
  exact ⟨g1, g2, by omega, g4, g5⟩
theorem OneOwn.rd {w : World} {B b off : Nat} {x : Occ × Nat} (h : OneOwn w B b off x) : OneRd w b off x.1 := by
  obtain ⟨h1, h2, a, cap, h3, h4, h5⟩ := h
  refine ⟨h1, h2, a, cap, h3, ⟨h4, fun hp => ?_⟩⟩
  obtain ⟨g1, g2, g3, g4, g5⟩ := h5 hp
  obtain ⟨b', off', e, q⟩ := (g5.ints h4).cells hp
  exact ⟨b', off', by rw [g1, e], q⟩
theorem OccRow.lt {w : World} {B b : Nat} {L : List (Occ × Nat)} (h : OccRow w B b L) : b < w.heap.size := by
  obtain ⟨c, t, hb, _⟩ := h.blk
  exact (Array.getElem?_eq_some_iff.1 hb).1
theorem OccRow.occs {w : World} {B b : Nat} {L : List (Occ × Nat)} (h : OccRow w B b L) : Occs w (some ⟨b, 0, none⟩) (L.map (·.1)) := by
  refine ⟨by simpa using h.len, fun _ => ⟨b, 0, rfl, h.lt, fun i hi => ?_⟩⟩
  simp only [List.length_map] at hi
  have := (h.one i hi).rd
  simpa using this
theorem OccRow.below {w w' : World} {B b : Nat} {L : List (Occ × Nat)} (h : OccRow w B b L) (hb : Below w.heap.size w w') : OccRow w' B b L := by
  have hl := h.lt
  obtain ⟨c, t, hc, hs⟩ := h.blk
  refine ⟨⟨c, t, (hb.block b hl).trans hc, hs⟩, h.ge, fun i hi => ?_, h.apart, h.len⟩
  have := h.one i hi
  refine this.frame (fun o _ _ => hb.cell hl) (fun hp => ?_) hb.size
  obtain ⟨_, _, a, cap, _, _, h5⟩ := this
  exact hb.block _ (h5 hp).2.2.2.1
theorem OccRow.low {w : World} {B B' b : Nat} {L : List (Occ × Nat)} (h : OccRow w B b L) (hB : B' ≤ B) : OccRow w B' b L :=
  ⟨h.blk, Nat.le_trans hB h.ge, fun i hi => (h.one i hi).low hB, h.apart, h.len⟩

theorem info_occ : (Try.prog.info? 60).map (fun i => (i.zero, i.size, i.bytes)) = some (some (.agg #[.int .i64 0, .int .i64 0, .slice none 0 0]), 3, 40) := by kernel_rfl
def zerosOcc (n : Nat) : Array Value := madeCells #[.int .i64 0, .int .i64 0, .slice none 0 0] (n * 3)
theorem make_occs (n : Nat) (hn : n ≤ 1048576) (w : World) :
    (Instr.makeSlice 89 (.int .i64 n) (.int .i64 n)).run Try.prog w = .ok (.slice (some ⟨w.heap.size, 0, none⟩) n n) (w.alloc (.cells (zerosOcc n) 60)) := by
  have hi := info_occ
  cases h : Try.prog.info? 60 with
  | none => rw [h] at hi; simp at hi
  | some i =>
    rw [h] at hi
    simp at hi
    obtain ⟨h1, h2, h3⟩ := hi
    have := run_make (P := Try.prog) w 89 60 i (.agg #[.int .i64 0, .int .i64 0, .slice none 0 0]) Try.underlying89 h h1 .i64 .i64 n n (by omega) (by omega) (by rw [h3]; omega) (by omega)
    rw [this, h2]
    rfl

theorem fill3 {w : World} {b j : Nat} {c : Array Value} {t : TypeId} (hb : w.heap[b]? = some (.cells c t (0, 0))) (hj : j + 3 ≤ c.size) (v0 v1 v2 : Value) {w' : World}
    (e : w' = ((w.setCell ⟨b, j, none⟩ v0).setCell ⟨b, j + 1, none⟩ v1).setCell ⟨b, j + 2, none⟩ v2) :
    (∃ c', w'.heap[b]? = some (.cells c' t (0, 0)) ∧ c'.size = c.size) ∧ w'.cell? ⟨b, j, none⟩ = some v0 ∧ w'.cell? ⟨b, j + 1, none⟩ = some v1 ∧ w'.cell? ⟨b, j + 2, none⟩ = some v2 ∧
    (∀ o, o < j ∨ j + 3 ≤ o → w'.cell? ⟨b, o, none⟩ = w.cell? ⟨b, o, none⟩) ∧ (∀ x, x ≠ b → w'.heap[x]? = w.heap[x]?) ∧ w'.heap.size = w.heap.size := by
  have h3 : w'.heap[b]? = some (.cells (((c.setIfInBounds j v0).setIfInBounds (j + 1) v1).setIfInBounds (j + 2) v2) t (0, 0)) := by
    rw [e]; exact heap_setCell_same _ _ _ _ _ _ (heap_setCell_same _ _ _ _ _ _ (heap_setCell_same _ _ _ _ _ _ hb))
  refine ⟨⟨_, h3, by simp⟩, ?_, ?_, ?_, ?_, ?_, by rw [e]; simp⟩
  · simp only [oCell h3, Array.getElem?_setIfInBounds, Array.size_setIfInBounds]
    rw [if_neg (by omega), if_neg (by omega), if_pos trivial, if_pos (by omega)]
  · simp only [oCell h3, Array.getElem?_setIfInBounds, Array.size_setIfInBounds]
    rw [if_neg (by omega), if_pos trivial, if_pos (by omega)]
  · simp only [oCell h3, Array.getElem?_setIfInBounds, Array.size_setIfInBounds]
    rw [if_pos trivial, if_pos (by omega)]
  · intro o ho
    simp only [oCell h3, oCell hb, Array.getElem?_setIfInBounds, Array.size_setIfInBounds]
    rw [if_neg (by omega), if_neg (by omega), if_neg (by omega)]
  · intro x hx
    rw [e]
    rw [Below.heap_setCell _ _ _ _ (fun e => hx e), Below.heap_setCell _ _ _ _ (fun e => hx e), Below.heap_setCell _ _ _ _ (fun e => hx e)]

/-- What the copy of a list hands back: a row of its own. -/
def CopyOs (w : World) (l : List Occ) (e : Ending) (w' : World) : Prop :=
  ∃ L : List (Occ × Nat), e = .returned (.slice (some ⟨w.heap.size, 0, none⟩) l.length l.length) ∧ L.map (·.1) = l ∧ OccRow w' w.heap.size w.heap.size L ∧ Below w.heap.size w w'

set_option maxHeartbeats 1000000 in
theorem toOccS_any (a : Option Addr) (cap : Nat) (l : List Occ) (w : World) (h : Occs w a l) (hn : occsSize l ≤ 1048576) :
    Calls Try.prog 91 #[.slice a l.length cap] w (CopyOs w l) := by
  have hse : occsSize l = l.length + idsTotal l := rfl
  have hmk := make_occs l.length (by omega)
  have hln : l.length ≤ 1048576 := by omega
  go_enter Try.func91, Try.ntmps91
  go_wp2
  go_loopw [4] (fun i wr => ∃ k : Nat, ∃ L : List (Occ × Nat), k ≤ l.length ∧ i = .int .i64 k ∧ (∃ c t, wr.heap[w.heap.size]? = some (.cells c t (0, 0)) ∧ c.size = l.length * 3) ∧ Hid (L.map (·.1) = l.take k) ∧
      (∀ i (h : i < L.length), OneOwn wr (w.heap.size + 1) w.heap.size (i * 3) L[i]) ∧ L.Pairwise Apart ∧ Below w.heap.size w wr ∧ w.heap.size < wr.heap.size) (fun i _ => l.length - (intOf i).toNat)
  case atStart =>
    refine ⟨0, [], Nat.zero_le _, rfl, ⟨zerosOcc l.length, _, heap_alloc_new w _, by simp [zerosOcc, size_madeCells]⟩, rfl, by simp, List.Pairwise.nil, (Below.refl _ _).alloc (Nat.le_refl _) _, by simp⟩
  case round =>
    obtain ⟨k, L, hk, rfl, ⟨c, t, hrow, hcs⟩, hL, hO, hap, hb, hz⟩ := hrel
    have hLk : L.length = k := by have := congrArg List.length hL.out; simp at this; omega
    by_cases hlt : k < l.length
    · obtain ⟨b, off, a', cap', rfl, hbl, c0, c1, c2, hids⟩ := (h.below hb).at hlt
      have hil : l[k].ids.length ≤ 1048576 := by have := idsTotal_get hlt; omega
      have htk : Hid (l.take (k + 1) = l.take k ++ [l[k]]) := List.take_succ_eq_append_getElem hlt
      generalize l[k] = o at c0 c1 c2 hids hil htk
      clear hmk hse
      have HLk : Hid (L.length = k) := hLk
      clear hLk
      go_wp2_with fail
      refine (toOcc_any _ _ a' cap' o.ids _ hids hil).mono ?_
      rintro e w1 ⟨b1, rfl, hr1, hg1, hl1, hb1⟩
      have hrow1 : w1.heap[w.heap.size]? = some (.cells c t (0, 0)) := (hb1.block _ hz).trans hrow
      have x0 := oCell hrow1 (k * 3)
      have x1 := oCell hrow1 (k * 3 + 1)
      have x2 := oCell hrow1 (k * 3 + 2)
      rw [Array.getElem?_eq_getElem (by omega)] at x0 x1 x2
      have fz : ∀ o, w1.frozen? ⟨w.heap.size, o, none⟩ = false := fun o => by simp [World.frozen?, hrow1]
      generalize c[k * 3] = y0 at x0
      generalize c[k * 3 + 1] = y1 at x1
      generalize c[k * 3 + 2] = y2 at x2
      go_wp2
      obtain ⟨⟨c', hrow', hcs'⟩, z0, z1, z2, zo, zb, zs⟩ := fill3 hrow1 (j := k * 3) (by omega) (.int .i64 o.fr) (.int .i64 o.tl) (.slice (some ⟨b1, 0, none⟩) o.ids.length o.ids.length) rfl
      have hbe : Below w.heap.size w w1 := hb.trans (hb1.mono hb.size)
      have hs1 := hb1.size
      have hLk := HLk.out
      refine ⟨⟨k + 1, L ++ [(o, b1)], by omega, by go_num, ⟨c', t, hrow', by omega⟩, ?_, ?_, ?_, ?_, ?_⟩, by simp [intOf]; omega⟩
      · show _ = _; rw [htk.out, ← hL.out]; simp
      · intro i hi
        simp only [List.length_append, List.length_cons, List.length_nil] at hi
        by_cases hil : i < L.length
        · rw [List.getElem_append_left hil]
          have := hO i hil
          refine this.frame (fun q _ hq => (zo q (by omega)).trans (hb1.cell hz)) (fun hp => ?_) (by omega)
          obtain ⟨_, _, a2, cap2, _, _, h5⟩ := this
          obtain ⟨_, g2, _, g4, _⟩ := h5 hp
          exact (zb _ (by omega)).trans (hb1.block _ g4)
        · obtain rfl : i = L.length := by omega
          rw [List.getElem_append_right (Nat.le_refl _)]
          simp only [Nat.sub_self, List.getElem_cons_zero]
          rw [hLk]
          exact ⟨z0, z1, _, _, z2, hids.len, fun _ => ⟨rfl, by show b1 ≠ _; omega, by show _ ≤ b1; omega, by show b1 < _; omega, hr1.of_block (zb _ (by show b1 ≠ _; omega))⟩⟩
      · refine List.pairwise_append.2 ⟨hap, List.pairwise_singleton _ _, fun x hx y hy hxp hyp => ?_⟩
        simp at hy
        subst hy
        obtain ⟨i, hi, rfl⟩ := List.getElem_of_mem hx
        obtain ⟨_, _, a2, cap2, _, _, h5⟩ := hO i hi
        obtain ⟨_, _, _, g4, _⟩ := h5 hxp
        show _ ≠ b1
        omega
      · exact ((hbe.setCell (Nat.le_refl _) _).setCell (Nat.le_refl _) _).setCell (Nat.le_refl _) _
      · simp; omega
    · go_wp2
      go_ret
      obtain rfl : k = l.length := by omega
      refine ⟨L, rfl, by rw [hL.out, List.take_of_length_le (Nat.le_refl _)], ⟨⟨c, t, hrow, by omega⟩, Nat.le_refl _, fun i hi => (hO i hi).low (by omega), hap, by rw [hLk]; exact h.len⟩, hb⟩
end Go.Proofs.Ythlddehmebgfoaa
