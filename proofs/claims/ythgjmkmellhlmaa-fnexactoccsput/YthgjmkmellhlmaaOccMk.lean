/- Lists of places in memory of their own: the marks that are written into it and read of it. -/
import Derived.Test.YthgjmkmellhlmaaOccP2
namespace Go.Proofs.Ythgjmkmellhlmaa
open Go.ChangeShapes Go.WideShapes Go.ChangeAt Go.RowKit
set_option linter.unusedVariables false
set_option maxRecDepth 4000

/-- Of what was there only blocks from B up to M have turned. -/
structure Within (B M : Nat) (w w' : World) : Prop where
  os : w'.os = w.os
  tape : w'.tape = w.tape
  output : w'.output = w.output
  size : w.heap.size ≤ w'.heap.size
  block : ∀ i, i < w.heap.size → (i < B ∨ M ≤ i) → w'.heap[i]? = w.heap[i]?
theorem Within.refl (B M : Nat) (w : World) : Within B M w w := ⟨rfl, rfl, rfl, Nat.le_refl _, fun _ _ _ => rfl⟩
theorem Within.trans {B M : Nat} {w w' w'' : World} (h : Within B M w w') (k : Within B M w' w'') : Within B M w w'' :=
  ⟨k.os.trans h.os, k.tape.trans h.tape, k.output.trans h.output, Nat.le_trans h.size k.size, fun i hs hi => (k.block i (Nat.lt_of_lt_of_le hs h.size) hi).trans (h.block i hs hi)⟩
theorem Within.set {B M : Nat} {w w' : World} (h : Within B M w w') {b o : Nat} (v : Value) (hb : B ≤ b) (hm : b < M) : Within B M w (w'.setCell ⟨b, o, none⟩ v) :=
  ⟨h.os, h.tape, h.output, by have := h.size; simpa using this, fun i hs hi => (Below.heap_setCell _ _ _ _ (by show i ≠ b; omega)).trans (h.block i hs hi)⟩
theorem Within.below {B M B' : Nat} {w w' : World} (h : Within B M w w') (hB : B' ≤ B) (hs : B' ≤ w.heap.size) : Below B' w w' :=
  ⟨h.os, h.tape, h.output, h.size, fun k hk => h.block k (by omega) (.inl (by omega))⟩

/-- The slice whose address is a holds the places L, all in memory of its own: blocks from B up to M. -/
structure OwnL (w : World) (B M : Nat) (a : Option Addr) (L : List (Occ × Nat)) : Prop where
  len : L.length ≤ maxLen
  row : 0 < L.length → ∃ b, a = some ⟨b, 0, none⟩ ∧ b < M ∧ OccRow w B b L ∧ ∀ x ∈ L, 0 < x.1.ids.length → x.2 < M
theorem OwnL.occs {w : World} {B M : Nat} {a : Option Addr} {L : List (Occ × Nat)} (h : OwnL w B M a L) : Occs w a (L.map (·.1)) := by
  refine ⟨by simpa using h.len, fun hl => ?_⟩
  simp only [List.length_map] at hl
  obtain ⟨b, rfl, _, hr, _⟩ := h.row hl
  exact hr.occs.cells (by simpa using hl)
theorem OwnL.below {w w' : World} {B M : Nat} {a : Option Addr} {L : List (Occ × Nat)} (h : OwnL w B M a L) (hb : Below w.heap.size w w') : OwnL w' B M a L := by
  refine ⟨h.len, fun hl => ?_⟩
  obtain ⟨b, e, hm, hr, hx⟩ := h.row hl
  exact ⟨b, e, hm, hr.below hb, hx⟩
theorem OccRow.inner' {w : World} {B b : Nat} {L : List (Occ × Nat)} (h : OccRow w B b L) : ∀ x ∈ L, 0 < x.1.ids.length → x.2 < w.heap.size ∧ B ≤ x.2 ∧ x.2 ≠ b := by
  intro x hx hp
  obtain ⟨i, hi, rfl⟩ := List.getElem_of_mem hx
  obtain ⟨_, _, a, cap, _, _, h5⟩ := h.one i hi
  exact ⟨(h5 hp).2.2.2.1, (h5 hp).2.2.1, (h5 hp).2.1⟩
/-- A row stays as long as none of its blocks is written. -/
theorem OccRow.stays {w w' : World} {B b : Nat} {L : List (Occ × Nat)} (h : OccRow w B b L) (hb : w'.heap[b]? = w.heap[b]?) (hx : ∀ x ∈ L, 0 < x.1.ids.length → w'.heap[x.2]? = w.heap[x.2]?) (hs : w.heap.size ≤ w'.heap.size) : OccRow w' B b L := by
  obtain ⟨c, t, hc, hcs⟩ := h.blk
  refine ⟨⟨c, t, hb.trans hc, hcs⟩, h.ge, fun i hi => ?_, h.apart, h.len⟩
  have := h.one i hi
  exact this.frame (fun o _ _ => by simp [World.cell?, hb]) (fun hp => hx _ (List.getElem_mem hi) hp) hs
/-- What was written elsewhere does not turn it. -/
theorem OwnL.within {w w' : World} {B M B' M' : Nat} {a : Option Addr} {L : List (Occ × Nat)} (h : OwnL w B M a L) (hw : Within B' M' w w') (hd : M ≤ B' ∨ M' ≤ B) : OwnL w' B M a L := by
  refine ⟨h.len, fun hl => ?_⟩
  obtain ⟨b, e, hm, hr, hx⟩ := h.row hl
  have hbl := hr.lt
  have hge := hr.ge
  refine ⟨b, e, hm, hr.stays (hw.block b hbl (by omega)) (fun x hxm hp => ?_) hw.size, hx⟩
  have h1 := hx x hxm hp
  obtain ⟨h2, h3, _⟩ := hr.inner' x hxm hp
  exact hw.block _ h2 (by omega)
theorem OwnL.low {w : World} {B B' M M' : Nat} {a : Option Addr} {L : List (Occ × Nat)} (h : OwnL w B M a L) (hB : B' ≤ B) (hM : M ≤ M') : OwnL w B' M' a L := by
  refine ⟨h.len, fun hl => ?_⟩
  obtain ⟨b, e, hm, hr, hx⟩ := h.row hl
  exact ⟨b, e, Nat.lt_of_lt_of_le hm hM, hr.low hB, fun x hxm hp => Nat.lt_of_lt_of_le (hx x hxm hp) hM⟩
/-- The copy that the laws make. -/
theorem OwnL.of_row {w : World} {B b : Nat} {L : List (Occ × Nat)} (h : OccRow w B b L) : OwnL w B w.heap.size (some ⟨b, 0, none⟩) L :=
  ⟨h.len, fun _ => ⟨b, rfl, h.lt, h, fun x hx hp => (h.inner' x hx hp).1⟩⟩
/-- The block of a place's numbers. -/
def OC.blk (x : OC) : Nat := match x.a with | some p => p.block | none => 0
def ocPairs (L : List OC) : List (Occ × Nat) := L.map fun x => (x.o, x.blk)
/-- A row that was made by appends. -/
theorem OwnL.of_own {w : World} {B n cap : Nat} {a : Option Addr} {L : List OC} (h : OccsOwn w B (.slice a n cap) L) : OwnL w B w.heap.size a (ocPairs L) := by
  have hlen : L.length ≤ maxLen := by
    rcases h.row.2 with ⟨e, hn⟩ | ⟨g, cap', cur, e, hb, hg, hnc, hcm, hcs, htk⟩
    · omega
    · omega
  refine ⟨by simpa [ocPairs] using hlen, fun hl => ?_⟩
  have hl' : 0 < L.length := by simpa [ocPairs] using hl
  rcases h.row.2 with ⟨e, hn⟩ | ⟨g, cap', cur, e, hb, hg, hnc, hcm, hcs, htk⟩
  · omega
  · cases e
    have hgl : g < w.heap.size := (Array.getElem?_eq_some_iff.1 hg).1
    have hin : ∀ x ∈ L, 0 < x.o.ids.length → x.a = some ⟨x.blk, 0, none⟩ ∧ x.blk ≠ g ∧ B ≤ x.blk ∧ x.blk < w.heap.size ∧ IntRow w x.blk x.o.ids := by
      intro x hx hp
      obtain ⟨b, e, h1, h2, h3⟩ := (h.one x hx).row hp
      have hbk : x.blk = b := by simp [OC.blk, e]
      rw [hbk]
      refine ⟨e, fun hbg => h.off x hx _ e ?_, h1, h2, h3⟩
      subst hbg
      rfl
    refine ⟨g, rfl, hgl, ⟨⟨cur, _, hg, by simp [ocPairs]; omega⟩, hb, fun i hi => ?_, ?_, by simpa [ocPairs] using hlen⟩, ?_⟩
    · simp only [ocPairs, List.length_map] at hi
      simp only [ocPairs, List.getElem_map]
      obtain ⟨g1, g2, g3⟩ := ocCells_get L i hi
      rw [← htk, List.getElem?_take, if_pos (by omega), Array.getElem?_toList] at g1 g2 g3
      refine ⟨by rw [oCell hg]; exact g1, by rw [oCell hg]; exact g2, L[i].a, L[i].c, by rw [oCell hg]; exact g3, (h.one _ (List.getElem_mem hi)).len, fun hp => ?_⟩
      exact hin _ (List.getElem_mem hi) hp
    · simp only [ocPairs]
      rw [List.pairwise_map]
      refine h.apart.imp_of_mem ?_
      intro x y hx hy hxy hpx hpy
      have h1 := (hin x hx hpx).1
      have h2 := (hin y hy hpy).1
      exact hxy _ _ h1 h2
    · intro x hx hp
      simp only [ocPairs, List.mem_map] at hx
      obtain ⟨y, hy, rfl⟩ := hx
      exact (hin y hy hp).2.2.2.1

def kNext (k : Int) (o : Occ) : Int := k + 2 + o.ids.length
def kAll (k : Int) : List (Occ × Nat) → Int
  | [] => k
  | x :: r => kAll (kNext k x.1) r
def markO (k : Int) (x : Occ × Nat) : Occ × Nat := (⟨k, k + 1, iMarks (k + 2) x.1.ids.length⟩, x.2)
def marksO (k : Int) : List (Occ × Nat) → List (Occ × Nat)
  | [] => []
  | x :: r => markO k x :: marksO (kNext k x.1) r
theorem kAll_append (k : Int) (L M : List (Occ × Nat)) : kAll k (L ++ M) = kAll (kAll k L) M := by
  induction L generalizing k with
  | nil => rfl
  | cons x r ih => exact ih _
theorem marksO_append (k : Int) (L M : List (Occ × Nat)) : marksO k (L ++ M) = marksO k L ++ marksO (kAll k L) M := by
  induction L generalizing k with
  | nil => rfl
  | cons x r ih => simp [marksO, kAll, ih]
theorem marksO_length (k : Int) (L : List (Occ × Nat)) : (marksO k L).length = L.length := by
  induction L generalizing k with
  | nil => rfl
  | cons x r ih => simp [marksO, ih]
theorem kAll_sum (k : Int) (L : List (Occ × Nat)) : kAll k L = k + 2 * L.length + idsTotal (L.map (·.1)) := by
  induction L generalizing k with
  | nil => simp [kAll, idsTotal]
  | cons x r ih => simp [kAll, ih, kNext, idsTotal]; omega
theorem kAll_step {L : List (Occ × Nat)} {j : Nat} (k : Int) (h : j < L.length) : kAll k (L.take (j + 1)) = kNext (kAll k (L.take j)) L[j].1 := by
  rw [List.take_succ_eq_append_getElem h, kAll_append]; rfl
def halfO (k : Int) (L : List (Occ × Nat)) (j : Nat) : List (Occ × Nat) := marksO k (L.take j) ++ L.drop j
theorem halfO_length (k : Int) (L : List (Occ × Nat)) (j : Nat) (h : j ≤ L.length) : (halfO k L j).length = L.length := by simp [halfO, marksO_length]; omega
theorem halfO_get (k : Int) (L : List (Occ × Nat)) (j : Nat) (h : j < L.length) : (halfO k L j)[j]? = some L[j] := by
  have e : (marksO k (L.take j)).length = j := by rw [marksO_length]; simp; omega
  unfold halfO
  rw [List.getElem?_append_right (by omega), e, Nat.sub_self, List.getElem?_drop]
  simp [h]
theorem halfO_set (k : Int) (L : List (Occ × Nat)) (j : Nat) (h : j < L.length) : (halfO k L j).set j (markO (kAll k (L.take j)) L[j]) = halfO k L (j + 1) := by
  have e : (marksO k (L.take j)).length = j := by rw [marksO_length]; simp; omega
  unfold halfO
  rw [List.set_append, if_neg (by omega), e, Nat.sub_self, List.drop_eq_getElem_cons h, List.set_cons_zero, List.take_succ_eq_append_getElem h, marksO_append]
  simp [marksO]
theorem idsTotal_take_le : ∀ (l : List Occ) (j : Nat), idsTotal (l.take j) ≤ idsTotal l
  | [], j => by simp
  | o :: r, 0 => by simp [idsTotal]
  | o :: r, j + 1 => by have := idsTotal_take_le r j; simp [idsTotal]; omega
theorem kAll_take_le {k : Int} {L : List (Occ × Nat)} (j : Nat) (hk : k ≤ 100000000) (hs : occsSize (L.map (·.1)) ≤ 10000000) : kAll k (L.take j) ≤ 200000000 := by
  rw [kAll_sum]
  have h1 := idsTotal_take_le (L.map (·.1)) j
  rw [← List.map_take] at h1
  have h2 : occsSize (L.map (·.1)) = (L.map (·.1)).length + idsTotal (L.map (·.1)) := rfl
  have h3 : (L.take j).length ≤ L.length := by simp; omega
  simp only [List.length_map] at h2
  omega
theorem kAll_take_ge {k : Int} {L : List (Occ × Nat)} (j : Nat) (hk : 0 ≤ k) : 0 ≤ kAll k (L.take j) := by
  rw [kAll_sum]; omega

/-- Marks in the numbers of one: they lie in block bx, if there are any. -/
theorem markIntS_one (a : Option Addr) (cap bx : Nat) (l : List Int) (k : Int) (w : World) (h : 0 < l.length → a = some ⟨bx, 0, none⟩ ∧ bx < w.heap.size ∧ IntRow w bx l) (hn : l.length ≤ 1048576) (hk0 : 0 ≤ k) (hk1 : k ≤ 1000000000) :
    Calls Try.prog 29 #[.slice a l.length cap, .int .i64 k] w fun e w' => e = .returned (.int .i64 (k + l.length)) ∧ (0 < l.length → IntRow w' bx (iMarks k l.length)) ∧ w.grownBy w' (if 0 < l.length then some bx else none) := by
  by_cases hp : 0 < l.length
  · obtain ⟨rfl, hlt, hr⟩ := h hp
    refine (markIntS_any bx (some ⟨bx, 0, none⟩) cap l k w (IntOwn.of_row hr (Nat.le_refl _) (by unfold maxLen; omega)) hn hk0 hk1).mono ?_
    rintro e w' ⟨rfl, ho, hg⟩
    refine ⟨rfl, fun _ => ?_, by rw [if_pos hp]; exact hg⟩
    obtain ⟨b, e, _, _, h3⟩ := ho.row (by rw [iMarks_length]; exact hp)
    cases e
    exact h3
  · obtain rfl : l = [] := List.eq_nil_of_length_eq_zero (by omega)
    simp only [List.length_nil]
    go_enter Try.func29, Try.ntmps29
    go_wp2
    go_loop [1, 5] (fun c i => i = .int .i64 0 ∧ c = .int .i64 k) (fun _ _ => 0)
    case atStart => exact ⟨rfl, rfl⟩
    case round =>
      obtain ⟨rfl, rfl⟩ := hrel
      go_wp2
      go_ret
      simp
      exact grownBy_refl _ _

/-- One of a row is marked. -/
theorem OccRow.mark {w w1 w2 : World} {B b : Nat} {L : List (Occ × Nat)} (h : OccRow w B b L) {j : Nat} (hj : j < L.length) (k : Int)
    (hw1 : w1 = (w.setCell ⟨b, j * 3, none⟩ (.int .i64 k)).setCell ⟨b, j * 3 + 1, none⟩ (.int .i64 (k + 1)))
    (hI : 0 < L[j].1.ids.length → IntRow w2 L[j].2 (iMarks (k + 2) L[j].1.ids.length)) (hg : w1.grownBy w2 (if 0 < L[j].1.ids.length then some L[j].2 else none)) : OccRow w2 B b (L.set j (markO k L[j])) := by
  obtain ⟨c, t, hb, hcs⟩ := h.blk
  have hbl := h.lt
  have hs1 : w1.heap.size = w.heap.size := by rw [hw1]; simp
  have hb1 : w1.heap[b]? = some (.cells ((c.setIfInBounds (j * 3) (.int .i64 k)).setIfInBounds (j * 3 + 1) (.int .i64 (k + 1))) t (0, 0)) := by
    rw [hw1]; exact heap_setCell_same _ _ _ _ _ _ (heap_setCell_same _ _ _ _ _ _ hb)
  have hne : (if 0 < L[j].1.ids.length then some L[j].2 else none) ≠ some b := by
    split
    · rename_i hp
      have := (h.inner' L[j] (List.getElem_mem hj) hp).2.2
      simpa using this
    · simp
  have hb2 := (hg.block b (by omega) (fun e => hne e.symm)).trans hb1
  have hc2 : ∀ o, w2.cell? ⟨b, o, none⟩ = w1.cell? ⟨b, o, none⟩ := fun o => by rw [oCell hb2, oCell hb1]
  refine ⟨⟨_, t, hb2, by simpa using hcs⟩, h.ge, fun i hi => ?_, ?_, by simpa using h.len⟩
  · rw [List.length_set] at hi
    rw [List.getElem_set]
    by_cases hij : j = i
    · subst hij
      rw [if_pos rfl]
      obtain ⟨_, _, a, cap, h3, h4, h5⟩ := h.one j hj
      rw [oCell hb] at h3
      refine ⟨?_, ?_, a, cap, ?_, by simpa [markO, iMarks_length] using h4, fun hp => ?_⟩
      · rw [oCell hb2, Array.getElem?_setIfInBounds, if_neg (by omega), Array.getElem?_setIfInBounds, if_pos rfl, if_pos (by omega)]; rfl
      · rw [oCell hb2, Array.getElem?_setIfInBounds, if_pos rfl, if_pos (by simp; omega)]; rfl
      · rw [oCell hb2, Array.getElem?_setIfInBounds, if_neg (by omega), Array.getElem?_setIfInBounds, if_neg (by omega), h3]
        simp [markO, iMarks_length]
      · have hp' : 0 < L[j].1.ids.length := by simpa [markO, iMarks_length] using hp
        obtain ⟨g1, g2, g3, g4, g5⟩ := h5 hp'
        exact ⟨g1, g2, g3, Nat.lt_of_lt_of_le (by omega : L[j].2 < w1.heap.size) hg.size, hI hp'⟩
    · rw [if_neg hij]
      have h1 := h.one i hi
      refine h1.frame (fun o ho1 ho2 => ?_) (fun hp => ?_) (by have := hg.size; omega)
      · rw [hc2, oCell hb1, oCell hb, Array.getElem?_setIfInBounds, if_neg (by omega), Array.getElem?_setIfInBounds, if_neg (by omega)]
      · obtain ⟨g2, g3, g4⟩ := h.inner' L[i] (List.getElem_mem hi) hp
        refine (hg.block _ (by omega) (fun e => ?_)).trans ?_
        · split at e
          · rename_i hp'
            have := List.pairwise_iff_getElem.1 h.apart
            rcases Nat.lt_or_gt_of_ne hij with hlt | hlt
            · exact this j i hj hi hlt hp' hp (by simpa using e.symm)
            · exact this i j hi hj hlt hp hp' (by simpa using e)
          · cases e
        · rw [hw1, Below.heap_setCell _ _ _ _ g4, Below.heap_setCell _ _ _ _ g4]
  · rw [List.pairwise_iff_getElem]
    intro p q hp hq hpq
    rw [List.length_set] at hp hq
    have := List.pairwise_iff_getElem.1 h.apart p q hp hq hpq
    have key : ∀ i (hi : i < L.length), (0 < ((L.set j (markO k L[j]))[i]'(by simpa using hi)).1.ids.length → 0 < L[i].1.ids.length) ∧ ((L.set j (markO k L[j]))[i]'(by simpa using hi)).2 = L[i].2 := by
      intro i hi
      rw [List.getElem_set]
      by_cases hij : j = i
      · subst hij; rw [if_pos rfl]; exact ⟨by simp [markO, iMarks_length], rfl⟩
      · rw [if_neg hij]; exact ⟨id, rfl⟩
    intro h1 h2
    rw [(key p hp).2, (key q hq).2]
    exact this ((key p hp).1 h1) ((key q hq).1 h2)

set_option maxHeartbeats 1000000 in
theorem markOccS_any (B M : Nat) (a : Option Addr) (cap n : Nat) (L : List (Occ × Nat)) (k : Int) (w : World) (h : OwnL w B M a L) (hnl : n = L.length) (hn : occsSize (L.map (·.1)) ≤ 1048576) (hk0 : 0 ≤ k) (hk1 : k ≤ 100000000) :
    Calls Try.prog 12 #[.slice a n cap, .int .i64 k] w fun e w' => e = .returned (.int .i64 (kAll k L)) ∧ OwnL w' B M a (marksO k L) ∧ Within B M w w' := by
  have hL : L.length ≤ 1048576 := by
    have h2 : occsSize (L.map (·.1)) = (L.map (·.1)).length + idsTotal (L.map (·.1)) := rfl
    simp only [List.length_map] at h2
    omega
  have hnl1 : n ≤ L.length := Nat.le_of_eq hnl
  have hnl2 : L.length ≤ n := Nat.le_of_eq hnl.symm
  have Hnl : Hid (n = L.length) := hnl
  clear hnl
  go_enter Try.func12, Try.ntmps12
  go_wp2
  go_loopw [1, 5] (fun c i wr => ∃ j : Nat, ∃ c0 : Int, j ≤ n ∧ i = .int .i64 j ∧ c = .int .i64 c0 ∧ Hid (c0 = kAll k (L.take j)) ∧ 0 ≤ c0 ∧ c0 ≤ 200000000 ∧ OwnL wr B M a (halfO k L j) ∧ Within B M w wr) (fun _ i _ => n - (intOf i).toNat)
  case atStart => exact ⟨0, k, Nat.zero_le _, rfl, rfl, rfl, hk0, by omega, by simpa [halfO, marksO] using h, Within.refl _ _ _⟩
  case round =>
    obtain ⟨j, c0, hj, rfl, rfl, hc, hc0, hc1, hO, hW⟩ := hrel
    by_cases hlt : j < n
    · have hjl : j < L.length := by omega
      have hhl := halfO_length k L j (by omega)
      obtain ⟨b, rfl, hbM, hrow, hin⟩ := hO.row (by omega)
      have hget := halfO_get k L j hjl
      have hset : Hid ((halfO k L j).set j (markO c0 L[j]) = halfO k L (j + 1)) := by show _ = _; rw [hc.out]; exact halfO_set k L j hjl
      have hkn : Hid (kAll k (L.take (j + 1)) = kNext c0 L[j].1) := by show _ = _; rw [hc.out]; exact kAll_step k hjl
      have hkl := kAll_take_le (k := k) (L := L) (j + 1) hk1 (by omega)
      have hkg := kAll_take_ge (k := k) (L := L) (j + 1) hk0
      rw [hkn.out] at hkl hkg
      have hj' : j < (halfO k L j).length := by omega
      have hgj : (halfO k L j)[j] = L[j] := by rw [List.getElem?_eq_getElem hj'] at hget; exact Option.some.inj hget
      obtain ⟨d0, d1, a', cap', d2, d3, d4⟩ := hrow.one j hj'
      rw [hgj] at d0 d1 d2 d3 d4
      have hidl : L[j].1.ids.length ≤ 1048576 := by
        have h1 := idsTotal_get (l := L.map (·.1)) (k := j) (by simpa using hjl)
        have h2 : occsSize (L.map (·.1)) = (L.map (·.1)).length + idsTotal (L.map (·.1)) := rfl
        simp only [List.getElem_map] at h1
        omega
      obtain ⟨c, t, hb, hcs⟩ := hrow.blk
      have hge := hrow.ge
      have hbl := hrow.lt
      have fz : ∀ o, wr.frozen? ⟨b, o, none⟩ = false := fun o => by simp [World.frozen?, hb]
      obtain ⟨y, hy⟩ : ∃ y, L[j] = y := ⟨_, rfl⟩
      rw [hy] at d0 d1 d2 d3 d4 hset hkn hkl hkg hidl hgj
      clear hget hhl
      obtain ⟨w1, hw1⟩ : ∃ w1, (wr.setCell ⟨b, j * 3, none⟩ (.int .i64 c0)).setCell ⟨b, j * 3 + 1, none⟩ (.int .i64 (c0 + 1)) = w1 := ⟨_, rfl⟩
      have hs1 : w1.heap.size = wr.heap.size := by rw [← hw1]; simp
      have hb1 : w1.heap[b]? = some (.cells ((c.setIfInBounds (j * 3) (.int .i64 c0)).setIfInBounds (j * 3 + 1) (.int .i64 (c0 + 1))) t (0, 0)) := by
        rw [← hw1]; exact heap_setCell_same _ _ _ _ _ _ (heap_setCell_same _ _ _ _ _ _ hb)
      have x2 : w1.cell? ⟨b, j * 3 + 2, none⟩ = some (.slice a' y.1.ids.length cap') := by
        rw [oCell hb1, Array.getElem?_setIfInBounds, if_neg (by omega), Array.getElem?_setIfInBounds, if_neg (by omega), ← oCell hb]; exact d2
      have ho1 : ∀ x, x ≠ b → w1.heap[x]? = wr.heap[x]? := fun x hx => by rw [← hw1, Below.heap_setCell _ _ _ _ hx, Below.heap_setCell _ _ _ _ hx]
      have hW1 : Within B M w w1 := by rw [← hw1]; exact (hW.set _ hge hbM).set _ hge hbM
      have hcall := markIntS_one a' cap' y.2 y.1.ids (c0 + 1 + 1) w1 (fun hp => ⟨(d4 hp).1, by have := (d4 hp).2.2.2.1; omega, (d4 hp).2.2.2.2.of_block (ho1 _ (d4 hp).2.1)⟩) hidl (by omega) (by omega)
      have Hw1 : Hid ((wr.setCell ⟨b, j * 3, none⟩ (.int .i64 c0)).setCell ⟨b, j * 3 + 1, none⟩ (.int .i64 (c0 + 1)) = w1) := hw1
      have hyM : 0 < y.1.ids.length → y.2 < M := fun hp => hin y (by rw [← hgj]; exact List.getElem_mem hj') hp
      go_wp2_with fail
      refine hcall.mono ?_
      rintro e w2 ⟨rfl, hI, hg⟩
      have e2 : c0 + 1 + 1 = c0 + 2 := by omega
      rw [e2] at hI
      have hmk := hrow.mark hj' c0 (w1 := w1) (w2 := w2) Hw1.out.symm (by rw [hgj]; exact hI) (by rw [hgj]; exact hg)
      rw [hgj, hset.out] at hmk
      have hW2 : Within B M w w2 := by
        refine hW1.trans ⟨hg.os, hg.tape, hg.output, hg.size, fun i hs hi => hg.block i hs (fun e => ?_)⟩
        split at e
        · rename_i hp
          have h1 := hyM hp
          have h2 := (d4 hp).2.2.1
          have : i = y.2 := by simpa using e
          omega
        · cases e
      clear hw1
      go_wp2
      refine ⟨⟨j + 1, _, by omega, by go_num, rfl, ?_, by omega, ?_, ⟨?_, fun _ => ⟨b, rfl, hbM, hmk, ?_⟩⟩, hW2⟩, by simp [intOf]; omega⟩
      · show _ = _
        rw [hkn.out]
        unfold kNext
        omega
      · unfold kNext at hkl
        omega
      · rw [halfO_length k L (j + 1) (by omega)]
        exact h.len
      · intro x hx hp
        rw [← hset.out] at hx
        rcases List.mem_or_eq_of_mem_set hx with hx | rfl
        · exact hin x hx hp
        · exact hyM (by simpa [markO, iMarks_length] using hp)
    · go_wp2
      go_ret
      obtain rfl : j = n := by omega
      rw [hc.out, Hnl.out, List.take_of_length_le (Nat.le_refl _)]
      rw [Hnl.out] at hO
      refine ⟨rfl, ?_, hW⟩
      simpa [halfO] using hO

set_option maxHeartbeats 1000000 in
theorem heldOccS_any (a : Option Addr) (cap n : Nat) (L : List (Occ × Nat)) (k : Int) (w : World) (h : Occs w a ((marksO k L).map (·.1))) (hnl : n = L.length) (hn : occsSize (L.map (·.1)) ≤ 1048576) (hk0 : 0 ≤ k) (hk1 : k ≤ 100000000) :
    Calls Try.prog 14 #[.slice a n cap, .int .i64 k] w fun e w' => e = .returned (.int .i64 (kAll k L)) ∧ Below w.heap.size w w' := by
  have hL : L.length ≤ 1048576 := by
    have h2 : occsSize (L.map (·.1)) = (L.map (·.1)).length + idsTotal (L.map (·.1)) := rfl
    simp only [List.length_map] at h2
    omega
  have hnl1 : n ≤ L.length := Nat.le_of_eq hnl
  have hnl2 : L.length ≤ n := Nat.le_of_eq hnl.symm
  have Hnl : Hid (n = L.length) := hnl
  clear hnl
  go_enter Try.func14, Try.ntmps14
  go_wp2
  go_loopw [1, 5] (fun c i wr => ∃ j : Nat, ∃ c0 : Int, j ≤ n ∧ i = .int .i64 j ∧ c = .int .i64 c0 ∧ Hid (c0 = kAll k (L.take j)) ∧ 0 ≤ c0 ∧ c0 ≤ 200000000 ∧ Below w.heap.size w wr) (fun _ i _ => n - (intOf i).toNat)
  case atStart => exact ⟨0, k, Nat.zero_le _, rfl, rfl, rfl, hk0, by omega, Below.refl _ _⟩
  case round =>
    obtain ⟨j, c0, hj, rfl, rfl, hc, hc0, hc1, hb⟩ := hrel
    by_cases hlt : j < n
    · have hjl : j < L.length := by omega
      have hml : ((marksO k L).map (·.1)).length = L.length := by simp [marksO_length]
      obtain ⟨b, off, a', cap', rfl, hbl, d0, d1, d2, hids⟩ := (h.below hb).at (k := j) (by omega)
      have hkn : Hid (kAll k (L.take (j + 1)) = kNext c0 L[j].1) := by show _ = _; rw [hc.out]; exact kAll_step k hjl
      have hkl := kAll_take_le (k := k) (L := L) (j + 1) hk1 (by omega)
      have hkg := kAll_take_ge (k := k) (L := L) (j + 1) hk0
      rw [hkn.out] at hkl hkg
      have hgm : ((marksO k L).map (·.1))[j]'(by omega) = (markO c0 L[j]).1 := by
        have e : L = L.take j ++ L[j] :: L.drop (j + 1) := by rw [← List.drop_eq_getElem_cons hjl, List.take_append_drop]
        have e2 : marksO k L = marksO k (L.take j) ++ markO c0 L[j] :: marksO (kNext c0 L[j].1) (L.drop (j + 1)) := by
          conv => lhs; rw [e]
          rw [marksO_append, ← hc.out]
          rfl
        have e3 : (marksO k (L.take j)).length = j := by rw [marksO_length]; simp; omega
        have e4 : (marksO k L)[j]? = some (markO c0 L[j]) := by
          rw [e2, List.getElem?_append_right (by omega), e3, Nat.sub_self]; rfl
        have e5 : (marksO k L)[j]'(by rw [marksO_length]; exact hjl) = markO c0 L[j] := by
          rw [List.getElem?_eq_getElem (by rw [marksO_length]; exact hjl)] at e4; exact Option.some.inj e4
        rw [List.getElem_map, e5]
      rw [hgm] at d0 d1 d2 hids
      have hidl : L[j].1.ids.length ≤ 1048576 := by
        have h1 := idsTotal_get (l := L.map (·.1)) (k := j) (by simpa using hjl)
        have h2 : occsSize (L.map (·.1)) = (L.map (·.1)).length + idsTotal (L.map (·.1)) := rfl
        simp only [List.getElem_map] at h1
        omega
      obtain ⟨y, hy⟩ : ∃ y, L[j] = y := ⟨_, rfl⟩
      rw [hy] at d0 d1 d2 hids hkn hkl hkg hidl
      simp only [markO, iMarks_length] at d0 d1 d2 hids
      have e2 : c0 + 1 + 1 = c0 + 2 := by omega
      rw [← e2] at hids
      have hcall := heldIntS_any a' cap' y.1.ids.length (c0 + 1 + 1) wr hids hidl (by omega) (by omega)
      have hge : ¬ (c0 + 1 + 1 + (y.1.ids.length : Int) < 0) := by omega
      clear hgm hml e2
      go_wp2_with fail
      refine hcall.mono ?_
      rintro e w2 ⟨rfl, rfl⟩
      go_wp2
      refine ⟨⟨j + 1, _, by omega, by go_num, rfl, ?_, by omega, ?_, hb⟩, by simp [intOf]; omega⟩
      · show _ = _
        rw [hkn.out]
        unfold kNext
        omega
      · unfold kNext at hkl
        omega
    · go_wp2
      go_ret
      obtain rfl : j = n := by omega
      rw [hc.out, Hnl.out, List.take_of_length_le (Nat.le_refl _)]
      exact ⟨rfl, hb⟩
end Go.Proofs.Ythgjmkmellhlmaa
