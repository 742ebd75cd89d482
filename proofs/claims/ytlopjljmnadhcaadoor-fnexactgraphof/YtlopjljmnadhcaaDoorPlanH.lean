/- Graphs in which nothing waits and nothing is due: the rows of their parts compared, and the graphs. -/
import Derived.Test.YtlopjljmnadhcaaDoorPlanG
namespace Go.Proofs.YtlopjljmnadhcaaDoor
open Go.ChangeShapes Go.WideShapes Go.ChangeAt Go.RowKit
set_option linter.unusedVariables false
set_option maxRecDepth 4000

/-- A row of parts, as a reader wants it. -/
structure Gcs (w : World) (a : Option Addr) (L : List GC) : Prop where
  len : L.length ≤ maxLen
  cells : 0 < L.length → ∃ b, a = some ⟨b, 0, none⟩ ∧ b < w.heap.size ∧ ∀ i (h : i < L.length) (j : Nat) (v : Value), (L[i].v)[j]? = some v → w.cell? ⟨b, 0 + i * 10 + j, none⟩ = some v
  one : ∀ x ∈ L, Ints w x.a x.g.ks
theorem GcOwn.gcs {w : World} {B : Nat} {a : Option Addr} {cap : Nat} {L : List GC} (h : GcOwn w B (.slice a L.length cap) L) : Gcs w a L := by
  refine ⟨?_, fun hl => ?_, fun x hx => (h.one x hx).ints⟩
  · rcases h.row.2 with ⟨e, hn⟩ | ⟨g, cap', cur, e, hb, hg, hnc, hcm, hcs, htk⟩
    · omega
    · unfold maxLen at *; omega
  · rcases h.row.2 with ⟨e, hn⟩ | ⟨g, cap', cur, e, hb, hg, hnc, hcm, hcs, htk⟩
    · omega
    · cases e
      refine ⟨g, rfl, (Array.getElem?_eq_some_iff.1 hg).1, fun i hi j v hv => ?_⟩
      have h1 := gcCells_get L i hi j v hv
      have hj : j < 10 := (List.getElem?_eq_some_iff.1 hv).1
      rw [← htk, List.getElem?_take, if_pos (by omega), Array.getElem?_toList] at h1
      rw [cell_at hg, Nat.zero_add]
      exact h1
theorem Gcs.below {w w' : World} {a : Option Addr} {L : List GC} (h : Gcs w a L) (hb : Below w.heap.size w w') : Gcs w' a L := by
  refine ⟨h.len, fun hl => ?_, fun x hx => (h.one x hx).below hb⟩
  obtain ⟨b, e, hlt, hc⟩ := h.cells hl
  exact ⟨b, e, Nat.lt_of_lt_of_le hlt hb.size, fun i hi j v hv => by rw [hb.cell (by exact hlt)]; exact hc i hi j v hv⟩
/-- The ten cells of a part. -/
def GTen (w : World) (b o : Nat) (x : GC) : Prop :=
  w.cell? ⟨b, o, none⟩ = some (.int .i64 x.g.kd) ∧ w.cell? ⟨b, o + 1, none⟩ = some (.int .i64 x.g.sy) ∧ w.cell? ⟨b, o + 2, none⟩ = some (.int .i64 x.g.nn) ∧ w.cell? ⟨b, o + 3, none⟩ = some (.slice x.a x.g.ks.length x.c) ∧
  w.cell? ⟨b, o + 4, none⟩ = some (.slice none 0 0) ∧ w.cell? ⟨b, o + 5, none⟩ = some (.slice none 0 0) ∧ w.cell? ⟨b, o + 6, none⟩ = some (.slice none 0 0) ∧
  w.cell? ⟨b, o + 7, none⟩ = some (.slice none 0 0) ∧ w.cell? ⟨b, o + 8, none⟩ = some (.slice none 0 0) ∧ w.cell? ⟨b, o + 9, none⟩ = some (.int .i64 0)
theorem Gcs.at {w : World} {a : Option Addr} {L : List GC} (h : Gcs w a L) {k : Nat} (hk : k < L.length) :
    ∃ b off, a = some ⟨b, off, none⟩ ∧ b < w.heap.size ∧ GTen w b (off + k * 10) L[k] ∧ Ints w L[k].a L[k].g.ks := by
  obtain ⟨b, ha, hlt, hc⟩ := h.cells (by omega)
  have h1 := hc k hk
  exact ⟨b, 0, ha, hlt, ⟨h1 0 _ rfl, h1 1 _ rfl, h1 2 _ rfl, h1 3 _ rfl, h1 4 _ rfl, h1 5 _ rfl, h1 6 _ rfl, h1 7 _ rfl, h1 8 _ rfl, h1 9 _ rfl⟩, h.one _ (List.getElem_mem hk)⟩

def gnsEqB : List GC → List GC → Bool
  | [], [] => true
  | x :: r, y :: s => gnEqB x.g y.g && gnsEqB r s
  | _, _ => false
theorem gnsEqB_iff : ∀ (a b : List GC), gnsEqB a b = true ↔ a.map (·.g) = b.map (·.g)
  | [], [] => by simp [gnsEqB]
  | [], _ :: _ => by simp [gnsEqB]
  | _ :: _, [] => by simp [gnsEqB]
  | x :: r, y :: s => by simp [gnsEqB, gnEqB_iff, gnsEqB_iff r s]
theorem gnsEqB_len {a b : List GC} (h : a.length ≠ b.length) : gnsEqB a b = false := by
  rw [Bool.eq_false_iff]; intro e; exact h (by simpa using congrArg List.length ((gnsEqB_iff a b).1 e))
theorem gnsEqB_step {a b : List GC} {k : Nat} (h : k < a.length) (h' : k < b.length) : gnsEqB (a.drop k) (b.drop k) = (gnEqB a[k].g b[k].g && gnsEqB (a.drop (k + 1)) (b.drop (k + 1))) := by
  rw [List.drop_eq_getElem_cons h, List.drop_eq_getElem_cons h']; rfl
theorem gnsEqB_end {a b : List GC} {k : Nat} (h : ¬ k < a.length) (h' : a.length = b.length) : gnsEqB (a.drop k) (b.drop k) = true := by
  rw [List.drop_eq_nil_of_le (by omega), List.drop_eq_nil_of_le (by omega)]; rfl

set_option maxHeartbeats 1000000 in
theorem eqNodeS_gc (a a' : Option Addr) (cap cap' : Nat) (l l' : List GC) (w : World) (h : Gcs w a l) (h' : Gcs w a' l') :
    Calls Tryd.prog 24 #[.slice a l.length cap, .slice a' l'.length cap'] w fun e w' => e = .returned (.bool (gnsEqB l l')) ∧ Below w.heap.size w w' := by
  have hn := h.len
  have hn' := h'.len
  unfold maxLen at hn hn'
  by_cases hne : l.length = l'.length
  · have hf : Hid (gnsEqB l l' = gnsEqB (l.drop 0) (l'.drop 0)) := rfl
    have hnb : ((l.length : Int) != (l'.length : Int)) = false := by simp [hne]
    have Hne : Hid (l.length = l'.length) := hne
    have hle : l.length ≤ l'.length := by omega
    clear hne
    go_enter Tryd.func24, Tryd.ntmps24
    go_wp2
    go_loopw [5] (fun i wr => ∃ k : Nat, k ≤ l.length ∧ i = .int .i64 k ∧ Hid (gnsEqB l l' = gnsEqB (l.drop k) (l'.drop k)) ∧ Below w.heap.size w wr) (fun i _ => l.length - (intOf i).toNat)
    case atStart => exact ⟨0, Nat.zero_le _, rfl, hf, Below.refl _ _⟩
    case round =>
      obtain ⟨k, hk, rfl, hr, hb⟩ := hrel
      by_cases hlt : k < l.length
      · obtain ⟨b, off, rfl, hbl, hc, hids⟩ := (h.below hb).at hlt
        obtain ⟨b', off', rfl, hbl', hd, hids'⟩ := (h'.below hb).at (k := k) (by omega)
        have hst : Hid (gnsEqB (l.drop k) (l'.drop k) = _) := gnsEqB_step hlt (show k < l'.length by omega)
        have hlt' : k < l'.length := by omega
        generalize l[k] = o at hc hids hst
        generalize l'[k] = o' at hd hids' hst
        obtain ⟨c0, c1, c2, c3, c4, c5, c6, c7, c8, c9⟩ := hc
        obtain ⟨d0, d1, d2, d3, d4, d5, d6, d7, d8, d9⟩ := hd
        have hcall := fun (u : After wr) => calls_after (u := u) (eqNode_gn o.g o'.g o.a o'.a o.c o'.c u.v (hids.below u.h) (hids'.below u.h))
        unfold gnC at hcall
        have a0 := fun u : After wr => u.cell c0 hbl
        have a1 := fun u : After wr => u.cell c1 hbl
        have a2 := fun u : After wr => u.cell c2 hbl
        have a3 := fun u : After wr => u.cell c3 hbl
        have a4 := fun u : After wr => u.cell c4 hbl
        have a5 := fun u : After wr => u.cell c5 hbl
        have a6 := fun u : After wr => u.cell c6 hbl
        have a7 := fun u : After wr => u.cell c7 hbl
        have a8 := fun u : After wr => u.cell c8 hbl
        have a9 := fun u : After wr => u.cell c9 hbl
        have g0 := fun u : After wr => u.cell d0 hbl'
        have g1 := fun u : After wr => u.cell d1 hbl'
        have g2 := fun u : After wr => u.cell d2 hbl'
        have g3 := fun u : After wr => u.cell d3 hbl'
        have g4 := fun u : After wr => u.cell d4 hbl'
        have g5 := fun u : After wr => u.cell d5 hbl'
        have g6 := fun u : After wr => u.cell d6 hbl'
        have g7 := fun u : After wr => u.cell d7 hbl'
        have g8 := fun u : After wr => u.cell d8 hbl'
        have g9 := fun u : After wr => u.cell d9 hbl'
        cases hev : gnEqB o.g o'.g
        · rw [hev] at hcall
          go_wp2
          have hany := after_any
          refine wp_region_after (by kernel_rfl) (by kernel_rfl) ?_
          repeat (go_big_quiet_step ((go_at_call 35; refine hcall _)))
          refine wpQuiet_nil ?_
          intro w1 hu
          have hbe : Below w.heap.size w w1 := hb.trans ((after_of hu).mono hb.size)
          clear hu
          go_wp2
          go_ret
          exact ⟨ret_bool (by rw [hr.out, hst.out, hev]; rfl), hbe⟩
        · rw [hev] at hcall
          go_wp2
          have hany := after_any
          refine wp_region_after (by kernel_rfl) (by kernel_rfl) ?_
          repeat (go_big_quiet_step ((go_at_call 35; refine hcall _)))
          refine wpQuiet_nil ?_
          intro w1 hu
          have hbe : Below w.heap.size w w1 := hb.trans ((after_of hu).mono hb.size)
          clear hu
          go_wp2
          exact ⟨⟨k + 1, by omega, by go_num, by show _ = _; rw [hr.out, hst.out, hev]; rfl, hbe⟩, by simp [intOf]; omega⟩
      · go_wp2
        go_ret
        exact ⟨ret_bool (by rw [hr.out, gnsEqB_end hlt Hne.out]), hb⟩
  · rw [gnsEqB_len hne]
    have hnb : ((l.length : Int) != (l'.length : Int)) = true := by simp; omega
    go_enter Tryd.func24, Tryd.ntmps24
    go_wp2
    go_ret
    exact ⟨rfl, Below.refl _ _⟩
end Go.Proofs.YtlopjljmnadhcaaDoor
