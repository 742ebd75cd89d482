/- Lists of places: comparison, both OccsOk. -/
/- Two values in one box; rows of places that stay as they are. -/
import Derived.Test.YthlddehmebgfoaaOccs
import Derived.Test.YthlddehmebgfoaaOcc4
import Derived.Test.YthlddehmebgfoaaAfter
namespace Go.Proofs.Ythlddehmebgfoaa
open Go.ChangeShapes Go.WideShapes Go.ChangeAt Go.RowKit
set_option linter.unusedVariables false
set_option maxRecDepth 4000

def oEqB (x y : Occ) : Bool := occEqB x.fr x.tl x.ids y.fr y.tl y.ids
theorem oEqB_iff (x y : Occ) : oEqB x y = true ↔ x = y := by
  cases x; cases y; simp [oEqB, occEqB_iff]
def occsEqB : List Occ → List Occ → Bool
  | [], [] => true
  | x :: r, y :: s => oEqB x y && occsEqB r s
  | _, _ => false
theorem occsEqB_iff : ∀ (a b : List Occ), occsEqB a b = true ↔ a = b
  | [], [] => by simp [occsEqB]
  | [], _ :: _ => by simp [occsEqB]
  | _ :: _, [] => by simp [occsEqB]
  | x :: r, y :: s => by simp [occsEqB, oEqB_iff, occsEqB_iff r s]
theorem occsEqB_self (a : List Occ) : occsEqB a a = true := (occsEqB_iff a a).2 rfl
theorem occsEqB_len {a b : List Occ} (h : a.length ≠ b.length) : occsEqB a b = false := by
  rw [Bool.eq_false_iff]; intro e; exact h (by rw [(occsEqB_iff a b).1 e])
theorem occsEqB_step {a b : List Occ} {k : Nat} (h : k < a.length) (h' : k < b.length) : occsEqB (a.drop k) (b.drop k) = (occEqB a[k].fr a[k].tl a[k].ids b[k].fr b[k].tl b[k].ids && occsEqB (a.drop (k + 1)) (b.drop (k + 1))) := by
  rw [List.drop_eq_getElem_cons h, List.drop_eq_getElem_cons h']; rfl
theorem occsEqB_end {a b : List Occ} {k : Nat} (h : ¬ k < a.length) (h' : a.length = b.length) : occsEqB (a.drop k) (b.drop k) = true := by
  rw [List.drop_eq_nil_of_le (by omega), List.drop_eq_nil_of_le (by omega)]; rfl

set_option maxHeartbeats 1000000 in
theorem eqOccS_any (a a' : Option Addr) (cap cap' : Nat) (l l' : List Occ) (w : World) (h : Occs w a l) (h' : Occs w a' l') :
    Calls Try.prog 94 #[.slice a l.length cap, .slice a' l'.length cap'] w fun e w' => e = .returned (.bool (occsEqB l l')) ∧ Below w.heap.size w w' := by
  have hn := h.len
  have hn' := h'.len
  unfold maxLen at hn hn'
  by_cases hne : l.length = l'.length
  · have hf : Hid (occsEqB l l' = occsEqB (l.drop 0) (l'.drop 0)) := rfl
    have hnb : ((l.length : Int) != (l'.length : Int)) = false := by simp [hne]
    have Hne : Hid (l.length = l'.length) := hne
    have hle : l.length ≤ l'.length := by omega
    clear hne
    go_enter Try.func94, Try.ntmps94
    go_wp2
    go_loopw [5] (fun i wr => ∃ k : Nat, k ≤ l.length ∧ i = .int .i64 k ∧ Hid (occsEqB l l' = occsEqB (l.drop k) (l'.drop k)) ∧ Below w.heap.size w wr) (fun i _ => l.length - (intOf i).toNat)
    case atStart => exact ⟨0, Nat.zero_le _, rfl, hf, Below.refl _ _⟩
    case round =>
      obtain ⟨k, hk, rfl, hr, hb⟩ := hrel
      by_cases hlt : k < l.length
      · obtain ⟨b, off, p, cp, rfl, hbl, c0, c1, c2, hids⟩ := (h.below hb).at hlt
        obtain ⟨b', off', p', cp', rfl, hbl', d0, d1, d2, hids'⟩ := (h'.below hb).at (k := k) (by omega)
        have hst : Hid (occsEqB (l.drop k) (l'.drop k) = _) := occsEqB_step hlt (show k < l'.length by omega)
        have hlt' : k < l'.length := by omega
        generalize l[k] = o at c0 c1 c2 hids hst
        generalize l'[k] = o' at d0 d1 d2 hids' hst
        have hcall := fun (u : After wr) => calls_after (u := u) (eqOcc_any o.fr o.tl p cp o.ids o'.fr o'.tl p' cp' o'.ids u.v (hids.below u.h) (hids'.below u.h))
        have a0 := fun u : After wr => u.cell c0 hbl
        have a1 := fun u : After wr => u.cell c1 hbl
        have a2 := fun u : After wr => u.cell c2 hbl
        have g0 := fun u : After wr => u.cell d0 hbl'
        have g1 := fun u : After wr => u.cell d1 hbl'
        have g2 := fun u : After wr => u.cell d2 hbl'
        cases hev : occEqB o.fr o.tl o.ids o'.fr o'.tl o'.ids
        · rw [hev] at hcall
          go_wp2
          have hany := after_any
          refine wp_region_after (by kernel_rfl) (by kernel_rfl) ?_
          repeat (go_big_quiet_step ((go_at_call 75; refine hcall _)))
          refine wpQuiet_nil ?_
          intro w1 hu
          have hbe : Below w.heap.size w w1 := hb.trans ((after_of hu).mono hb.size)
          clear hu
          go_wp2
          go_ret
          exact ⟨ret_bool (by rw [hr.out, hst.out, hev]; rfl), hbe⟩
        · rw [hev] at hcall
          go_wp2
          have hany := after_any
          refine wp_region_after (by kernel_rfl) (by kernel_rfl) ?_
          repeat (go_big_quiet_step ((go_at_call 75; refine hcall _)))
          refine wpQuiet_nil ?_
          intro w1 hu
          have hbe : Below w.heap.size w w1 := hb.trans ((after_of hu).mono hb.size)
          clear hu
          go_wp2
          exact ⟨⟨k + 1, by omega, by go_num, by show _ = _; rw [hr.out, hst.out, hev]; rfl, hbe⟩, by simp [intOf]; omega⟩
      · go_wp2
        go_ret
        exact ⟨ret_bool (by rw [hr.out, occsEqB_end hlt Hne.out]), hb⟩
  · rw [occsEqB_len hne]
    have hnb : ((l.length : Int) != (l'.length : Int)) = true := by simp; omega
    go_enter Try.func94, Try.ntmps94
    go_wp2
    go_ret
    exact ⟨rfl, Below.refl _ _⟩

/-- Whether p, if there is one, comes ahead of o. -/
def aheadB (p : Option Occ) (o : Occ) : Bool := match p with | none => true | some p => lessB p.fr p.tl p.ids o.fr o.tl o.ids
/-- All are ok, each ahead of the next one. -/
def okFromO (p : Option Occ) : List Occ → Bool
  | [] => true
  | o :: r => occOkB o.fr o.tl o.ids && aheadB p o && okFromO (some o) r
def occsOkB (l : List Occ) : Bool := decide (l.length ≤ 40) && okFromO none l
theorem okFromO_step {p : Option Occ} {l : List Occ} {k : Nat} (h : k < l.length) : okFromO p (l.drop k) = (occOkB l[k].fr l[k].tl l[k].ids && aheadB p l[k] && okFromO (some l[k]) (l.drop (k + 1))) := by
  rw [List.drop_eq_getElem_cons h]; rfl
theorem okFromO_end {p : Option Occ} {l : List Occ} {k : Nat} (h : ¬ k < l.length) : okFromO p (l.drop k) = true := by
  rw [List.drop_eq_nil_of_le (by omega)]; rfl
/-- The one ahead of place k. -/
def prevO (l : List Occ) (k : Nat) : Option Occ := match k with | 0 => none | j + 1 => l[j]?
theorem prevO_succ {l : List Occ} {k : Nat} (h : k < l.length) : prevO l (k + 1) = some l[k] := by simp [prevO, h]

end Go.Proofs.Ythlddehmebgfoaa
namespace Go.Proofs.Ythlddehmebgfoaa
open Go.ChangeShapes Go.WideShapes Go.ChangeAt Go.RowKit Go.Deep
set_option linter.unusedVariables false
set_option maxRecDepth 4000

/-- Block A is the box of one value of two cells. -/
def Box2 (w : World) (A : Nat) (v0 v1 : Value) : Prop := ∃ t f, w.heap[A]? = some (.cells #[v0, v1] t f)
theorem Box2.cells {w : World} {A : Nat} {v0 v1 : Value} (h : Box2 w A v0 v1) : w.cell? ⟨A, 0, none⟩ = some v0 ∧ w.cell? ⟨A, 1, none⟩ = some v1 := by
  obtain ⟨t, f, h⟩ := h
  exact ⟨oCell h 0, oCell h 1⟩
theorem Box2.lt {w : World} {A : Nat} {v0 v1 : Value} (h : Box2 w A v0 v1) : A < w.heap.size := by
  obtain ⟨t, f, h⟩ := h
  exact (Array.getElem?_eq_some_iff.1 h).1
theorem Box2.below {w w' : World} {A : Nat} {v0 v1 : Value} (h : Box2 w A v0 v1) (hb : Below w.heap.size w w') : Box2 w' A v0 v1 := by
  have hl := h.lt
  obtain ⟨t, f, h⟩ := h
  exact ⟨t, f, (hb.block A hl).trans h⟩
theorem box2_new (w : World) (v0 v1 : Value) (t : TypeId) : Box2 (w.alloc (.cells #[v0, v1] t)) w.heap.size v0 v1 := ⟨t, (0, 0), heap_alloc_new w _⟩

/-- What the copy of one hands back: two rows of their own, the second behind all of the first. -/
def CopyP (w : World) (l l' : List Occ) (e : Ending) (w' : World) : Prop :=
  ∃ (b b' M : Nat) (L L' : List (Occ × Nat)), e = .returned (.agg #[.slice (some ⟨b, 0, none⟩) l.length l.length, .slice (some ⟨b', 0, none⟩) l'.length l'.length]) ∧ L.map (·.1) = l ∧ L'.map (·.1) = l' ∧
    OccRow w' w.heap.size b L ∧ b < M ∧ (∀ x ∈ L, 0 < x.1.ids.length → x.2 < M) ∧ OccRow w' M b' L' ∧ w.heap.size ≤ M ∧ Below w.heap.size w w'
theorem CopyP.left {w' : World} {B b : Nat} {L : List (Occ × Nat)} {l : List Occ} (h : OccRow w' B b L) (e : L.map (·.1) = l) : Occs w' (some ⟨b, 0, none⟩) l := by
  have := h.occs
  rwa [e] at this
theorem OccRow.inner {w : World} {B b : Nat} {L : List (Occ × Nat)} (h : OccRow w B b L) : ∀ x ∈ L, 0 < x.1.ids.length → x.2 < w.heap.size := by
  intro x hx hp
  obtain ⟨i, hi, rfl⟩ := List.getElem_of_mem hx
  obtain ⟨_, _, a, cap, _, _, h5⟩ := h.one i hi
  exact (h5 hp).2.2.2.1
theorem OccRow.inner_ne {w : World} {B b : Nat} {L : List (Occ × Nat)} (h : OccRow w B b L) : ∀ x ∈ L, 0 < x.1.ids.length → B ≤ x.2 ∧ x.2 ≠ b := by
  intro x hx hp
  obtain ⟨i, hi, rfl⟩ := List.getElem_of_mem hx
  obtain ⟨_, _, a, cap, _, _, h5⟩ := h.one i hi
  exact ⟨(h5 hp).2.2.1, (h5 hp).2.1⟩
/-- A row stays as long as none of its blocks is written. -/
theorem OccRow.stay {w w' : World} {B b : Nat} {L : List (Occ × Nat)} (h : OccRow w B b L) (hb : w'.heap[b]? = w.heap[b]?) (hx : ∀ x ∈ L, 0 < x.1.ids.length → w'.heap[x.2]? = w.heap[x.2]?) (hs : w.heap.size ≤ w'.heap.size) : OccRow w' B b L := by
  obtain ⟨c, t, hc, hcs⟩ := h.blk
  refine ⟨⟨c, t, hb.trans hc, hcs⟩, h.ge, fun i hi => ?_, h.apart, h.len⟩
  have := h.one i hi
  exact this.frame (fun o _ _ => by simp [World.cell?, hb]) (fun hp => hx _ (List.getElem_mem hi) hp) hs
end Go.Proofs.Ythlddehmebgfoaa
