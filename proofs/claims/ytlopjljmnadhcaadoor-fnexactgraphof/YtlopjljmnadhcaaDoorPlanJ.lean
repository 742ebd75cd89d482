/- The marks in a row of parts: as plain data, and in memory. -/
import Derived.Test.YtlopjljmnadhcaaDoorPlanI
namespace Go.Proofs.YtlopjljmnadhcaaDoor
open Go.ChangeShapes Go.WideShapes Go.ChangeAt Go.RowKit
set_option linter.unusedVariables false
set_option maxRecDepth 4000

set_option maxHeartbeats 400000 in
theorem markOccS_nil (k : Int) (w : World) : Calls Tryd.prog 37 #[.slice none 0 0, .int .i64 k] w fun e w' => e = .returned (.int .i64 k) ∧ w' = w := by
  go_enter Tryd.func37, Tryd.ntmps37
  go_wp2
  go_loopw [1, 5] (fun c i wr => i = .int .i64 0 ∧ c = .int .i64 k ∧ wr = w) (fun _ _ _ => 0)
  case atStart => exact ⟨rfl, rfl, rfl⟩
  case round =>
    obtain ⟨rfl, rfl, hwr⟩ := hrel
    subst hwr
    go_wp2
    go_ret
    exact ⟨rfl, rfl⟩
set_option maxHeartbeats 400000 in
theorem heldOccS_nil (k : Int) (w : World) : Calls Tryd.prog 39 #[.slice none 0 0, .int .i64 k] w fun e w' => e = .returned (.int .i64 k) ∧ w' = w := by
  go_enter Tryd.func39, Tryd.ntmps39
  go_wp2
  go_loopw [1, 5] (fun c i wr => i = .int .i64 0 ∧ c = .int .i64 k ∧ wr = w) (fun _ _ _ => 0)
  case atStart => exact ⟨rfl, rfl, rfl⟩
  case round =>
    obtain ⟨rfl, rfl, hwr⟩ := hrel
    subst hwr
    go_wp2
    go_ret
    exact ⟨rfl, rfl⟩

/-- A part with the slice of its places, and with what its last number is. -/
structure GE where
  kd : Int
  sy : Int
  nn : Int
  ks : List Int
  mn : Int
  a : Option Addr
  c : Nat
def GE.v (x : GE) : List Value := [.int .i64 x.kd, .int .i64 x.sy, .int .i64 x.nn, .slice x.a x.ks.length x.c, .slice none 0 0, .slice none 0 0, .slice none 0 0, .slice none 0 0, .slice none 0 0, .int .i64 x.mn]
def GC.e (x : GC) : GE := ⟨x.g.kd, x.g.sy, x.g.nn, x.g.ks, 0, x.a, x.c⟩
def GE.mark (x : GE) (k : Int) : GE := ⟨k, k + 1, k + 1 + 1, iMarks (k + 1 + 1 + 1) x.ks.length, k + 1 + 1 + 1 + x.ks.length, x.a, x.c⟩
def GE.w (x : GE) : Nat := 4 + x.ks.length
def widL : List GE → Nat
  | [] => 0
  | x :: r => x.w + widL r
/-- The mark at which the part at j begins. -/
def offL (k : Int) (L : List GE) (j : Nat) : Int := k + widL (L.take j)
/-- The first j are marked. -/
def markL (k : Int) : List GE → Nat → List GE
  | L, 0 => L
  | [], _ + 1 => []
  | x :: r, j + 1 => x.mark k :: markL (k + x.w) r j
theorem markL_length : ∀ (L : List GE) (j : Nat) (k : Int), (markL k L j).length = L.length
  | [], 0, _ => rfl
  | _ :: _, 0, _ => rfl
  | [], _ + 1, _ => rfl
  | x :: r, j + 1, k => by simp [markL, markL_length r j]
theorem markL_ge : ∀ (L : List GE) (j : Nat) (k : Int) (i : Nat), j ≤ i → (markL k L j)[i]? = L[i]?
  | [], 0, _, _, _ => rfl
  | _ :: _, 0, _, _, _ => rfl
  | [], _ + 1, _, _, _ => rfl
  | x :: r, j + 1, k, 0, h => by omega
  | x :: r, j + 1, k, i + 1, h => by simpa [markL] using markL_ge r j (k + x.w) i (by omega)
theorem markL_lt : ∀ (L : List GE) (j : Nat) (k : Int) (i : Nat) (x : GE), i < j → L[i]? = some x → (markL k L j)[i]? = some (x.mark (offL k L i))
  | [], _, _, _, _, _, h => by simp at h
  | _ :: _, 0, _, _, _, h, _ => by omega
  | y :: r, j + 1, k, 0, x, h, hx => by simp at hx; subst hx; simp [markL, offL, widL]
  | y :: r, j + 1, k, i + 1, x, h, hx => by
    have := markL_lt r j (k + y.w) i x (by omega) (by simpa using hx)
    simp only [markL, List.getElem?_cons_succ, this]
    congr 2
    simp only [offL, List.take_succ_cons, widL]
    omega
theorem markL_next : ∀ (L : List GE) (j : Nat) (k : Int) (x : GE), L[j]? = some x → markL k L (j + 1) = (markL k L j).set j (x.mark (offL k L j))
  | [], _, _, _, h => by simp at h
  | y :: r, 0, k, x, h => by simp at h; subst h; cases r <;> simp [markL, offL, widL]
  | y :: r, j + 1, k, x, h => by
    have := markL_next r j (k + y.w) x (by simpa using h)
    rw [markL, this, markL, List.set_cons_succ]
    congr 3
    simp only [offL, List.take_succ_cons, widL]
    omega
theorem offL_next (L : List GE) (j : Nat) (k : Int) (x : GE) (h : L[j]? = some x) : offL k L (j + 1) = offL k L j + 4 + x.ks.length := by
  have e : ∀ (L : List GE) (j : Nat), L[j]? = some x → widL (L.take (j + 1)) = widL (L.take j) + x.w := by
    intro L
    induction L with
    | nil => intro j h; simp at h
    | cons y r ih =>
      intro j h
      cases j with
      | zero => simp at h; subst h; simp [widL]
      | succ j => rw [List.take_succ_cons, List.take_succ_cons, widL, widL, ih j (by simpa using h)]; omega
  unfold offL
  rw [e L j h]
  unfold GE.w
  omega
theorem offL_le (L : List GE) (j : Nat) (k : Int) : k ≤ offL k L j ∧ offL k L j ≤ k + widL L := by
  have e : ∀ (L : List GE) (j : Nat), widL (L.take j) ≤ widL L := by
    intro L
    induction L with
    | nil => intro j; simp
    | cons y r ih =>
      intro j
      cases j with
      | zero => simp [widL]
      | succ j => rw [List.take_succ_cons, widL, widL]; have := ih j; omega
  have := e L j
  unfold offL
  omega
theorem offL_zero (L : List GE) (k : Int) : offL k L 0 = k := by simp [offL, widL]
theorem offL_full (L : List GE) (j : Nat) (k : Int) (h : L.length ≤ j) : offL k L j = k + widL L := by unfold offL; rw [List.take_of_length_le h]

/-- Block b is a row of the parts L, the places of each in a row of their own, all from B on. -/
structure Ges (w : World) (B b : Nat) (L : List GE) : Prop where
  blk : ∃ c t, w.heap[b]? = some (.cells c t (0, 0)) ∧ L.length * 10 ≤ c.size
  ge : B ≤ b
  cells : ∀ (i : Nat) (x : GE), L[i]? = some x → ∀ (j : Nat) (v : Value), x.v[j]? = some v → w.cell? ⟨b, i * 10 + j, none⟩ = some v
  one : ∀ (i : Nat) (x : GE), L[i]? = some x → IntOwn w B x.a x.ks
  off : ∀ (i : Nat) (x : GE), L[i]? = some x → ∀ (p : Addr), x.a = some p → p.block ≠ b ∧ p.block < w.heap.size
  apart : ∀ (i : Nat) (x : GE) (i' : Nat) (y : GE), L[i]? = some x → L[i']? = some y → i ≠ i' → ∀ p q, x.a = some p → y.a = some q → p.block ≠ q.block
/-- One part is turned, nothing else of the row. -/
theorem Ges.step {w w' : World} {B b : Nat} {L : List GE} (h : Ges w B b L) {j : Nat} {x : GE} (hx : L[j]? = some x) (y : GE) (hya : y.a = x.a) (hs : w.heap.size ≤ w'.heap.size)
    (hb : ∃ c t, w'.heap[b]? = some (.cells c t (0, 0)) ∧ L.length * 10 ≤ c.size)
    (hc : ∀ (o : Nat), (o < j * 10 ∨ j * 10 + 10 ≤ o) → w'.cell? ⟨b, o, none⟩ = w.cell? ⟨b, o, none⟩) (hv : ∀ (r : Nat) (v : Value), y.v[r]? = some v → w'.cell? ⟨b, j * 10 + r, none⟩ = some v)
    (hi : IntOwn w' B y.a y.ks) (ho : ∀ (q : Nat), q ≠ b → (∀ (p : Addr), x.a = some p → q ≠ p.block) → q < w.heap.size → w'.heap[q]? = w.heap[q]?) : Ges w' B b (L.set j y) := by
  have hget : ∀ (i : Nat) (z : GE), (L.set j y)[i]? = some z → (i = j ∧ z = y) ∨ (i ≠ j ∧ L[i]? = some z) := by
    intro i z hz
    by_cases e : j = i
    · subst e
      have hl := (List.getElem?_eq_some_iff.1 hx).1
      rw [List.getElem?_set_self hl] at hz
      exact .inl ⟨rfl, (Option.some.inj hz).symm⟩
    · rw [List.getElem?_set_ne e] at hz
      exact .inr ⟨fun e' => e e'.symm, hz⟩
  refine ⟨by simpa using hb, h.ge, fun i z hz r v hr => ?_, fun i z hz => ?_, fun i z hz p hp => ?_, fun i z i' z' hz hz' hne p q hp hq => ?_⟩
  · have hr10 : r < 10 := (List.getElem?_eq_some_iff.1 hr).1
    rcases hget i z hz with ⟨rfl, rfl⟩ | ⟨hij, hz⟩
    · exact hv r v hr
    · rw [hc _ (by omega)]; exact h.cells i z hz r v hr
  · rcases hget i z hz with ⟨rfl, rfl⟩ | ⟨hij, hz⟩
    · exact hi
    · refine gInt_turn (h.one i z hz) hs fun p hp => ho _ (h.off i z hz p hp).1 (fun q hq => h.apart i z j x hz hx hij p q hp hq) (h.off i z hz p hp).2
  · rcases hget i z hz with ⟨rfl, rfl⟩ | ⟨hij, hz⟩
    · have := h.off i x hx p (hya ▸ hp); exact ⟨this.1, Nat.lt_of_lt_of_le this.2 hs⟩
    · have := h.off i z hz p hp; exact ⟨this.1, Nat.lt_of_lt_of_le this.2 hs⟩
  · rcases hget i z hz with ⟨rfl, rfl⟩ | ⟨hij, kz⟩ <;> rcases hget i' z' hz' with ⟨rfl, rfl⟩ | ⟨hij', kz'⟩
    · exact absurd rfl hne
    · exact h.apart i x i' z' hx kz' hne p q (hya ▸ hp) hq
    · exact h.apart i z i' x kz hx hne p q hp (hya ▸ hq)
    · exact h.apart i z i' z' kz kz' hne p q hp hq
theorem GcOwn.ges {w : World} {B b : Nat} {cap : Nat} {L : List GC} (h : GcOwn w B (.slice (some ⟨b, 0, none⟩) L.length cap) L) (hl : 0 < L.length) : Ges w B b (L.map GC.e) := by
  have hm : ∀ (i : Nat) (z : GE), (L.map GC.e)[i]? = some z → ∃ x, L[i]? = some x ∧ x.e = z := by intro i z hz; simpa using hz
  have hgs := h.gcs
  obtain ⟨b', e, hlt, hc⟩ := hgs.cells hl
  cases e
  refine ⟨?_, ?_, fun i z hz j v hv => ?_, fun i z hz => ?_, fun i z hz p hp => ?_, fun i z i' z' hz hz' hne p q hp hq => ?_⟩
  · rcases h.row.2 with ⟨e, hn⟩ | ⟨g, cap', cur, e, hb, hg, hnc, hcm, hcs, htk⟩
    · cases e
    · cases e
      refine ⟨_, _, hg, ?_⟩
      have := congrArg List.length htk
      rw [gcCells_length, List.length_take] at this
      simp at this ⊢
      omega
  · exact (gOwns_lt h.row _ rfl).1
  · obtain ⟨x, hx, rfl⟩ := hm i z hz
    obtain ⟨hi, rfl⟩ := List.getElem?_eq_some_iff.1 hx
    have := hc i hi j v hv
    simpa using this
  · obtain ⟨x, hx, rfl⟩ := hm i z hz
    exact h.one x (List.mem_of_getElem? hx)
  · obtain ⟨x, hx, rfl⟩ := hm i z hz
    exact ⟨fun e => h.off x (List.mem_of_getElem? hx) p hp (by rw [← e]; rfl), h.lt x (List.mem_of_getElem? hx) p hp⟩
  · obtain ⟨x, hx, rfl⟩ := hm i z hz
    obtain ⟨x', hx', rfl⟩ := hm i' z' hz'
    obtain ⟨hi, rfl⟩ := List.getElem?_eq_some_iff.1 hx
    obtain ⟨hi', rfl⟩ := List.getElem?_eq_some_iff.1 hx'
    rcases Nat.lt_or_gt_of_ne hne with hlt' | hgt
    · exact List.pairwise_iff_getElem.1 h.apart i i' hi hi' hlt' p q hp hq
    · exact fun e => List.pairwise_iff_getElem.1 h.apart i' i hi' hi hgt q p hq hp e.symm
end Go.Proofs.YtlopjljmnadhcaaDoor
