/- The marks that the laws write into what is looked for, and read of it. -/
import Derived.Test.YtkckeobapckejaaDoorEx4
namespace Go.Proofs.YtkckeobapckejaaDoor
open Go.ChangeShapes Go.WideShapes Go.ChangeAt Go.RowKit
set_option linter.unusedVariables false

/-- The slice a holds the list F in rows of its own: the blocks S. -/
def OwnAt (w : World) (a : Option Addr) (S : List Nat) (F : Fo) : Prop :=
  (F.len = 0 → S = []) ∧ (0 < F.len → ∃ b S', a = some ⟨b, 0, none⟩ ∧ S = b :: S' ∧ (∃ c t, w.heap[b]? = some (.cells c t (0, 0))) ∧ OwnKids w b 0 F.len S' F)

/-- Between w and w' only the blocks S have turned, and new ones have come. -/
structure Touch (S : List Nat) (w w' : World) : Prop where
  os : w'.os = w.os
  tape : w'.tape = w.tape
  output : w'.output = w.output
  size : w.heap.size ≤ w'.heap.size
  block : ∀ x, x < w.heap.size → x ∉ S → w'.heap[x]? = w.heap[x]?
theorem Touch.refl (S : List Nat) (w : World) : Touch S w w := ⟨rfl, rfl, rfl, Nat.le_refl _, fun _ _ _ => rfl⟩
theorem Touch.trans {S : List Nat} {a b c : World} (h : Touch S a b) (k : Touch S b c) : Touch S a c :=
  ⟨k.os.trans h.os, k.tape.trans h.tape, k.output.trans h.output, Nat.le_trans h.size k.size, fun x hx hS => (k.block x (Nat.lt_of_lt_of_le hx h.size) hS).trans (h.block x hx hS)⟩
theorem Touch.mono {S S' : List Nat} {a b : World} (h : Touch S a b) (hs : ∀ x ∈ S, x ∈ S') : Touch S' a b :=
  ⟨h.os, h.tape, h.output, h.size, fun x hx hS => h.block x hx (fun e => hS (hs x e))⟩
theorem Touch.setCell {S : List Nat} {a w : World} (h : Touch S a w) {p : Addr} (hp : p.block ∈ S) (u : Value) : Touch S a (w.setCell p u) :=
  h.trans ⟨rfl, rfl, rfl, by simp [World.setCell], fun x _ hS => Below.heap_setCell _ _ _ _ (fun e => hS (e ▸ hp))⟩
theorem Touch.below {S : List Nat} {w w' : World} {B : Nat} (h : Touch S w w') (hS : ∀ x ∈ S, B ≤ x) (hB : B ≤ w.heap.size) : Below B w w' :=
  ⟨h.os, h.tape, h.output, h.size, fun x hx => h.block x (by omega) (fun e => by have := hS x e; omega)⟩

def Fo.setAt : Nat → Fo → Int → Int → Int → Fo → Fo
  | _, .nil, _, _, _, _ => .nil
  | 0, .cons _ _ _ _ r, kd, sy, n, k => .cons kd sy n k r
  | i + 1, .cons kd' sy' n' k' r, kd, sy, n, k => .cons kd' sy' n' k' (r.setAt i kd sy n k)

/-- All numbers are marks, from k on. -/
def markF : Int → Fo → Fo
  | _, .nil => .nil
  | k, .cons _ _ _ kids rest => .cons k (k + 1) (k + 1 + 1) (markF (k + 1 + 1 + 1) kids) (markF (k + 3 + 3 * kids.size) rest)
/-- Those of the first i are. -/
def mixF : Nat → Int → Fo → Fo
  | _, _, .nil => .nil
  | 0, _, .cons kd sy n k r => .cons kd sy n k r
  | i + 1, k, .cons _ _ _ kids rest => .cons k (k + 1) (k + 1 + 1) (markF (k + 1 + 1 + 1) kids) (mixF i (k + 3 + 3 * kids.size) rest)
theorem markF_len : ∀ (k : Int) (F : Fo), (markF k F).len = F.len
  | _, .nil => rfl
  | k, .cons _ _ _ kids rest => by simp only [markF, Fo.len, markF_len _ rest]
theorem markF_size : ∀ (k : Int) (F : Fo), (markF k F).size = F.size
  | _, .nil => rfl
  | k, .cons _ _ _ kids rest => by simp only [markF, Fo.size, markF_size _ kids, markF_size _ rest]
theorem mixF_len : ∀ (i : Nat) (k : Int) (F : Fo), (mixF i k F).len = F.len
  | i, _, .nil => by cases i <;> rfl
  | 0, _, .cons .. => rfl
  | i + 1, k, .cons _ _ _ kids rest => by simp only [mixF, Fo.len, mixF_len i _ rest]
theorem mixF_zero (k : Int) (F : Fo) : mixF 0 k F = F := by cases F <;> rfl
theorem mixF_full : ∀ (i : Nat) (k : Int) (F : Fo), F.len ≤ i → mixF i k F = markF k F
  | i, _, .nil, _ => by cases i <;> rfl
  | 0, _, .cons .., h => by simp [Fo.len] at h
  | i + 1, k, .cons _ _ _ kids rest, h => by simp only [mixF, markF, mixF_full i _ rest (by simpa [Fo.len] using h)]
/-- The mark at which the i-th begins. -/
def markAt (k : Int) (F : Fo) (i : Nat) : Int := k + 3 * ((F.size : Int) - ((F.drop i).size : Int))
theorem mixF_drop : ∀ (i : Nat) (k : Int) (F : Fo), (mixF i k F).drop i = F.drop i
  | i, _, .nil => by cases i <;> rfl
  | 0, _, .cons .. => rfl
  | i + 1, k, .cons _ _ _ kids rest => by simp only [mixF, Fo.drop, mixF_drop i _ rest]
theorem mixF_next : ∀ (i : Nat) (k : Int) (F : Fo) (kd sy n : Int) (kids : Fo), F.drop i = .cons kd sy n kids (F.drop (i + 1)) →
    mixF (i + 1) k F = (mixF i k F).setAt i (markAt k F i) (markAt k F i + 1) (markAt k F i + 1 + 1) (markF (markAt k F i + 1 + 1 + 1) kids)
  | i, k, .nil, kd, sy, n, kids, h => by cases i <;> rfl
  | 0, k, .cons kd' sy' n' kids' rest, kd, sy, n, kids, h => by
    simp only [Fo.drop] at h
    cases h
    have e : markAt k (.cons kd' sy' n' kids' rest) 0 = k := by simp [markAt, Fo.drop]
    rw [e]
    simp only [mixF, Fo.setAt, mixF_zero]
  | i + 1, k, .cons kd' sy' n' kids' rest, kd, sy, n, kids, h => by
    simp only [Fo.drop] at h
    have e : markAt k (.cons kd' sy' n' kids' rest) (i + 1) = markAt (k + 3 + 3 * kids'.size) rest i := by
      simp only [markAt, Fo.drop, Fo.size]; omega
    rw [e, mixF, mixF_next i (k + 3 + 3 * kids'.size) rest kd sy n kids h]
    rfl
theorem markF_drop : ∀ (i : Nat) (k : Int) (F : Fo), (markF k F).drop i = markF (markAt k F i) (F.drop i)
  | i, k, .nil => by cases i <;> rfl
  | 0, k, .cons kd sy n kids rest => by
    have e : markAt k (.cons kd sy n kids rest) 0 = k := by simp [markAt, Fo.drop]
    rw [e]; rfl
  | i + 1, k, .cons kd sy n kids rest => by
    have e : markAt k (.cons kd sy n kids rest) (i + 1) = markAt (k + 3 + 3 * kids.size) rest i := by
      simp only [markAt, Fo.drop, Fo.size]; omega
    rw [e]
    show (markF _ rest).drop i = _
    rw [markF_drop i _ rest]; rfl

theorem Fo.drop_size : ∀ (i : Nat) (F : Fo), (F.drop i).size ≤ F.size
  | 0, F => by rw [Fo.drop_zero]; exact Nat.le_refl _
  | i + 1, .nil => by simp [Fo.drop]
  | i + 1, .cons _ _ _ kids rest => by have := Fo.drop_size i rest; simp only [Fo.drop, Fo.size]; omega

/-- One of the list: what lies of it, and what the list is when it has turned. -/
theorem OwnKids.at {w : World} : ∀ (F : Fo) (i b off : Nat) (S : List Nat) (kd sy n : Int) (kids : Fo), OwnKids w b off F.len S F → F.drop i = .cons kd sy n kids (F.drop (i + 1)) →
    ∃ T1 T2 T3 a cap, S = T1 ++ (T2 ++ T3) ∧ w.cell? ⟨b, off + i * 4, none⟩ = some (.int .i64 kd) ∧ w.cell? ⟨b, off + i * 4 + 1, none⟩ = some (.int .i64 sy) ∧ w.cell? ⟨b, off + i * 4 + 2, none⟩ = some (.int .i64 n) ∧
      w.cell? ⟨b, off + i * 4 + 3, none⟩ = some (.slice a kids.len cap) ∧ kids.len ≤ maxLen ∧ OwnAt w a T2 kids ∧
      ∀ (w' : World) (kd' sy' n' : Int) (kids' : Fo), kids'.len = kids.len → w'.cell? ⟨b, off + i * 4, none⟩ = some (.int .i64 kd') → w'.cell? ⟨b, off + i * 4 + 1, none⟩ = some (.int .i64 sy') → w'.cell? ⟨b, off + i * 4 + 2, none⟩ = some (.int .i64 n') →
        w'.cell? ⟨b, off + i * 4 + 3, none⟩ = some (.slice a kids.len cap) → (∀ o, off ≤ o → (o < off + i * 4 ∨ off + i * 4 + 4 ≤ o) → w'.cell? ⟨b, o, none⟩ = w.cell? ⟨b, o, none⟩) → (∀ x ∈ T1 ++ T3, w'.heap[x]? = w.heap[x]?) → OwnAt w' a T2 kids' →
        OwnKids w' b off F.len S (F.setAt i kd' sy' n' kids')
  | .nil, i, b, off, S, kd, sy, n, kids, h, hd => by rw [Fo.drop_end i .nil (by simp [Fo.len])] at hd; cases hd
  | .cons kd0 sy0 n0 kids0 rest, 0, b, off, S, kd, sy, n, kids, ⟨S1, S2, e, ⟨h1, h2, h3⟩, ⟨a, cap, h4, h5, h6, h7⟩, h8⟩, hd => by
    subst e
    simp only [Fo.drop] at hd
    cases hd
    refine ⟨[], S1, S2, a, cap, rfl, by simpa using h1, by simpa using h2, by simpa using h3, by simpa using h4, h5, ⟨h6, h7⟩, ?_⟩
    intro w' kd' sy' n' kids' hl g1 g2 g3 g4 go gb gk
    simp only [Nat.zero_mul, Nat.add_zero] at g1 g2 g3 g4 go
    refine ⟨S1, S2, rfl, ⟨g1, g2, g3⟩, ⟨a, cap, by rw [hl]; exact g4, by rw [hl]; exact h5, gk.1, gk.2⟩, ?_⟩
    exact h8.frame rest b (off + 4) rest.len S2 (fun o ho _ => go o (by omega) (by omega)) (fun x hx => gb x (by simpa using hx))
  | .cons kd0 sy0 n0 kids0 rest, i + 1, b, off, S, kd, sy, n, kids, ⟨S1, S2, e, h1, ⟨a0, cap0, h4, h5, h6, h7⟩, h8⟩, hd => by
    subst e
    simp only [Fo.drop] at hd
    obtain ⟨T1, T2, T3, a, cap, e, c1, c2, c3, c4, hl, hO, hback⟩ := OwnKids.at rest i b (off + 4) S2 kd sy n kids h8 hd
    subst e
    rw [show off + 4 + i * 4 = off + (i + 1) * 4 by omega] at c1 c2 c3 c4 hback
    refine ⟨S1 ++ T1, T2, T3, a, cap, by simp, c1, c2, c3, c4, hl, hO, ?_⟩
    intro w' kd' sy' n' kids' hl' g1 g2 g3 g4 go gb gk
    refine ⟨S1, T1 ++ (T2 ++ T3), rfl, ?_, ?_, hback w' kd' sy' n' kids' hl' g1 g2 g3 g4 (fun o ho ho' => go o (by omega) (by omega)) (fun x hx => gb x (by rw [List.append_assoc]; exact List.mem_append.2 (Or.inr hx))) gk⟩
    · obtain ⟨k1, k2, k3⟩ := h1
      exact ⟨by rw [go _ (by omega) (by omega)]; exact k1, by rw [go _ (by omega) (by omega)]; exact k2, by rw [go _ (by omega) (by omega)]; exact k3⟩
    · refine ⟨a0, cap0, by rw [go _ (by omega) (by omega)]; exact h4, h5, h6, fun hk => ?_⟩
      obtain ⟨b', S', ha, rfl, ⟨c, t, hbl⟩, hk'⟩ := h7 hk
      have hb' := gb b' (by simp)
      exact ⟨b', S', ha, rfl, ⟨c, t, hb'.trans hbl⟩, hk'.frame kids0 b' 0 _ S' (fun o _ _ => World.cell?_of_block (w := w) hb') (fun x hx => gb x (by simp [hx]))⟩

theorem OwnAt.blk {w : World} {a : Option Addr} {S : List Nat} {F : Fo} (h : OwnAt w a S F) : ∀ x ∈ S, x < w.heap.size := by
  intro x hx
  by_cases h0 : F.len = 0
  · rw [h.1 h0] at hx; cases hx
  · obtain ⟨b, S', _, rfl, ⟨c, t, hb⟩, hk⟩ := h.2 (by omega)
    rcases List.mem_cons.1 hx with rfl | hx
    · exact (Array.getElem?_eq_some_iff.1 hb).1
    · exact hk.lt F b 0 _ S' x hx

theorem OwnAt.of_blocks {w w' : World} {a : Option Addr} {S : List Nat} {F : Fo} (h : OwnAt w a S F) (e : ∀ x ∈ S, w'.heap[x]? = w.heap[x]?) : OwnAt w' a S F := by
  refine ⟨h.1, fun hl => ?_⟩
  obtain ⟨b, S', ha, rfl, ⟨c, t, hb⟩, hk⟩ := h.2 hl
  have hb' := e b (by simp)
  exact ⟨b, S', ha, rfl, ⟨c, t, hb'.trans hb⟩, hk.frame F b 0 _ S' (fun o _ _ => World.cell?_of_block (w := w) hb') (fun x hx => e x (by simp [hx]))⟩
theorem OwnAt.slc {w : World} {a : Option Addr} {S : List Nat} {F : Fo} (h : OwnAt w a S F) (hl : F.len ≤ maxLen) : Slc w a F := by
  refine ⟨hl, fun h0 => ?_⟩
  obtain ⟨b, S', ha, _, ⟨c, t, hb⟩, hk⟩ := h.2 h0
  exact ⟨b, 0, ha, (Array.getElem?_eq_some_iff.1 hb).1, hk.kids⟩
theorem fill3 {w : World} {b j : Nat} {c : Array Value} {t : TypeId} (hb : w.heap[b]? = some (.cells c t (0, 0))) (hj : j + 3 ≤ c.size) (v0 v1 v2 : Value) {w' : World}
    (e : ((w.setCell ⟨b, j, none⟩ v0).setCell ⟨b, j + 1, none⟩ v1).setCell ⟨b, j + 2, none⟩ v2 = w') :
    (∃ c', w'.heap[b]? = some (.cells c' t (0, 0)) ∧ c'.size = c.size) ∧ w'.cell? ⟨b, j, none⟩ = some v0 ∧ w'.cell? ⟨b, j + 1, none⟩ = some v1 ∧ w'.cell? ⟨b, j + 2, none⟩ = some v2 ∧
    (∀ o, (o < j ∨ j + 3 ≤ o) → w'.cell? ⟨b, o, none⟩ = w.cell? ⟨b, o, none⟩) ∧ (∀ x, x ≠ b → w'.heap[x]? = w.heap[x]?) := by
  have h4 : w'.heap[b]? = some (.cells (((c.setIfInBounds j v0).setIfInBounds (j + 1) v1).setIfInBounds (j + 2) v2) t (0, 0)) := by
    rw [← e]; exact heap_setCell_same _ _ _ _ _ _ (heap_setCell_same _ _ _ _ _ _ (heap_setCell_same _ _ _ _ _ _ hb))
  refine ⟨⟨_, h4, by simp⟩, ?_, ?_, ?_, ?_, ?_⟩
  · simp only [cell_at h4, Array.getElem?_setIfInBounds, Array.size_setIfInBounds]
    rw [if_neg (by omega), if_neg (by omega), if_pos trivial, if_pos (by omega)]
  · simp only [cell_at h4, Array.getElem?_setIfInBounds, Array.size_setIfInBounds]
    rw [if_neg (by omega), if_pos trivial, if_pos (by omega)]
  · simp only [cell_at h4, Array.getElem?_setIfInBounds, Array.size_setIfInBounds]
    rw [if_pos trivial, if_pos (by omega)]
  · intro o ho
    simp only [cell_at h4, cell_at hb, Array.getElem?_setIfInBounds, Array.size_setIfInBounds]
    rw [if_neg (by omega), if_neg (by omega), if_neg (by omega)]
  · intro x hx
    rw [← e]
    rw [Below.heap_setCell _ _ _ _ (fun e => hx e), Below.heap_setCell _ _ _ _ (fun e => hx e), Below.heap_setCell _ _ _ _ (fun e => hx e)]

set_option maxHeartbeats 1000000 in
theorem markExS_any : ∀ (N : Nat) (F : Fo), F.size ≤ N → N ≤ 1048576 → ∀ (a : Option Addr) (cap : Nat) (S : List Nat) (k : Int) (w : World), OwnAt w a S F → S.Nodup → 0 ≤ k → k + 3 * F.size ≤ 1000000000 → F.len ≤ maxLen →
    Calls Tryd.prog 37 #[.slice a F.len cap, .int .i64 k] w fun e w' => e = .returned (.int .i64 (k + 3 * F.size)) ∧ OwnAt w' a S (markF k F) ∧ Touch S w w' := by
  intro N
  induction N using Nat.strongRecOn with
  | _ N ih =>
  intro F hN hN1 a cap S k w hO hnd hk0 hk1 hlen
  unfold maxLen at hlen
  go_enter Tryd.func37, Tryd.ntmps37
  go_wp2_with fail
  go_loopw [1, 5] (fun c i wr => ∃ j : Nat, j ≤ F.len ∧ i = .int .i64 j ∧ c = .int .i64 (markAt k F j) ∧ OwnAt wr a S (mixF j k F) ∧ Touch S w wr) (fun _ i _ => F.len - (intOf i).toNat)
  case atStart => exact ⟨0, Nat.zero_le _, rfl, by simp [markAt, Fo.drop_zero], by rw [mixF_zero]; exact hO, Touch.refl _ _⟩
  case round =>
    obtain ⟨j, hj, rfl, rfl, hO, ht⟩ := hrel
    by_cases hlt : j < F.len
    · obtain ⟨b, S', rfl, rfl, ⟨c, t, hbl⟩, hk⟩ := hO.2 (by rw [mixF_len]; omega)
      obtain ⟨kd, sy, n, kids, hd, hsz⟩ := Fo.drop_at j F hlt
      have hd' : (mixF j k F).drop j = .cons kd sy n kids ((mixF j k F).drop (j + 1)) := by
        obtain ⟨kd', sy', n', kids', hd', _⟩ := Fo.drop_at j (mixF j k F) (by rw [mixF_len]; omega)
        have e := hd'
        rw [mixF_drop, hd] at e
        simp only [Fo.cons.injEq] at e
        obtain ⟨rfl, rfl, rfl, rfl, _⟩ := e
        exact hd'
      obtain ⟨T1, T2, T3, p, cp, rfl, c0, c1, c2, c3, hkl, hkO, hback⟩ := OwnKids.at (mixF j k F) j b 0 S' kd sy n kids hk hd'
      simp only [Nat.zero_add] at c0 c1 c2 c3 hback
      have hds : (F.drop j).size = kids.size + (F.drop (j + 1)).size + 1 := by rw [hd]; rfl
      have hdle : (F.drop j).size ≤ F.size := Fo.drop_size j F
      have hm0 : 0 ≤ markAt k F j := by unfold markAt; omega
      have hm1 : markAt k F j + 3 + 3 * kids.size ≤ 1000000000 := by unfold markAt; omega
      have hnx : Hid (markAt k F (j + 1) = markAt k F j + 3 + 3 * kids.size) := by show _ = _; unfold markAt; omega
      have hmix : Hid (mixF (j + 1) k F = _) := mixF_next j k F kd sy n kids hd
      have hml := mixF_len j k F
      generalize markAt k F j = m at hm0 hm1 hnx hmix
      have fz : ∀ o, wr.frozen? ⟨b, o, none⟩ = false := fun o => by simp [World.frozen?, hbl]
      have hnd1 := (List.nodup_cons.1 hnd).1
      have hnd2 := (List.nodup_cons.1 hnd).2
      have hKlt := fun x hx => hk.lt _ _ _ _ _ x hx
      clear hd hd' hO hk
      have hcs : j * 4 + 4 ≤ c.size := by
        have := cell_at hbl (j * 4 + 3)
        rw [c3] at this
        have := (Array.getElem?_eq_some_iff.1 this.symm).1
        omega
      go_wp2_with fail
      obtain ⟨wM, hwM⟩ : ∃ wM, ((wr.setCell ⟨b, j * 4, none⟩ (.int .i64 m)).setCell ⟨b, j * 4 + 1, none⟩ (.int .i64 (m + 1))).setCell ⟨b, j * 4 + 2, none⟩ (.int .i64 (m + 1 + 1)) = wM := ⟨_, rfl⟩
      rw [hwM]
      obtain ⟨⟨c', hbM, hcs'⟩, m0, m1, m2, mo, mb⟩ := fill3 hbl (j := j * 4) (by omega) _ _ _ hwM
      have htM : Touch (b :: (T1 ++ (T2 ++ T3))) w wM := by
        rw [← hwM]; exact ((ht.setCell (by simp) _).setCell (by simp) _).setCell (by simp) _
      have hb2 : ∀ x ∈ T1 ++ (T2 ++ T3), x ≠ b := fun x hx e => hnd1 (e ▸ hx)
      have hkM : OwnAt wM p T2 kids := hkO.of_blocks fun x hx => mb x (hb2 x (by simp [hx]))
      have hnT2 : T2.Nodup := (List.nodup_append.1 (List.nodup_append.1 hnd2).2.1).1
      refine (ih kids.size (by omega) kids (Nat.le_refl _) (by omega) p cp T2 (m + 1 + 1 + 1) wM hkM hnT2 (by omega) (by omega) hkl).mono ?_
      rintro e w2 ⟨rfl, hk2, ht2⟩
      have hbMs := (Array.getElem?_eq_some_iff.1 hbM).1
      have hbT2 : b ∉ T2 := fun e => hb2 b (by simp [e]) rfl
      have hb2' : w2.heap[b]? = wM.heap[b]? := ht2.block b hbMs hbT2
      have hce : ∀ o, w2.cell? ⟨b, o, none⟩ = wM.cell? ⟨b, o, none⟩ := fun o => World.cell?_of_block (w := wM) hb2'
      have hNew := hback w2 m (m + 1) (m + 1 + 1) (markF (m + 1 + 1 + 1) kids) (markF_len _ _) ((hce _).trans m0) ((hce _).trans m1) ((hce _).trans m2) ((hce _).trans ((mo _ (by omega)).trans c3))
        (fun o _ ho => (hce o).trans (mo o (by omega)))
        (fun x hx => by
          have hxm : x ∈ T1 ++ (T2 ++ T3) := by simp only [List.mem_append] at hx ⊢; rcases hx with h | h; exact Or.inl h; exact Or.inr (Or.inr h)
          have hxlt : x < wr.heap.size := hKlt x hxm
          have hx2 : x ∉ T2 := by
            intro e
            rcases List.mem_append.1 hx with h | h
            · exact (List.nodup_append.1 hnd2).2.2 x h x (by simp [e]) rfl
            · exact (List.nodup_append.1 (List.nodup_append.1 hnd2).2.1).2.2 x e x h rfl
          exact (ht2.block x (by rw [← hwM]; simpa using hxlt) hx2).trans (mb x (hb2 x hxm)))
        hk2
      rw [← hmix.out] at hNew
      clear hback hwM ih
      go_wp2_with fail
      refine ⟨⟨j + 1, by omega, by go_num, ?_, ?_, htM.trans (ht2.mono (fun x hx => by simp [hx]))⟩, by simp [intOf]; omega⟩
      · rw [hnx.out]; go_num
      · refine ⟨fun e => ?_, fun _ => ⟨b, _, rfl, rfl, ⟨c', t, hb2'.trans hbM⟩, ?_⟩⟩
        · rw [mixF_len] at e; omega
        · rw [mixF_len]; rw [hml] at hNew; exact hNew
    · go_wp2_with fail
      go_ret
      rw [mixF_full j k F (by omega)] at hO
      have : markAt k F j = k + 3 * F.size := by unfold markAt; rw [Fo.drop_end j F (by omega)]; simp [Fo.size]
      exact ⟨by rw [← this]; rfl, hO, ht⟩

theorem RowOwn.at {w : World} {B b : Nat} {S : List Nat} {F : Fo} (h : RowOwn w B b S F) : ∃ T, OwnAt w (some ⟨b, 0, none⟩) T F ∧ T.Nodup ∧ ∀ x ∈ T, B ≤ x ∧ x < w.heap.size := by
  by_cases h0 : F.len = 0
  · exact ⟨[], ⟨fun _ => rfl, fun hl => by omega⟩, List.nodup_nil, fun x hx => by cases hx⟩
  · exact ⟨b :: S, ⟨fun e => absurd e h0, fun _ => ⟨b, S, rfl, rfl, h.blk, h.own⟩⟩, h.apart, fun x hx => ⟨h.ge x hx, h.lt x hx⟩⟩

theorem OwnAt.below {w w' : World} {a : Option Addr} {S : List Nat} {F : Fo} (h : OwnAt w a S F) (hb : Below w.heap.size w w') : OwnAt w' a S F :=
  h.of_blocks fun x hx => hb.block x (h.blk x hx)

end Go.Proofs.YtkckeobapckejaaDoor
