/- Lists of rules are copied by the laws: rows of the call's own. -/
import Derived.Test.YthlddehmebgfoaaRu2
namespace Go.Proofs.Ythlddehmebgfoaa
open Go.ChangeShapes Go.WideShapes Go.ChangeAt Go.RowKit Go.Deep
set_option linter.unusedVariables false
set_option maxRecDepth 4000

theorem info_rule : (Try.prog.info? 84).map (fun i => (i.zero, i.size, i.bytes)) = some (some (.agg #[.string { data := #[] }, .int .i64 0, .int .i64 0, .int .i64 0, .int .i64 0, .int .i64 0, .slice none 0 0, .int .i64 0, .int .i64 0, .int .i64 0, .int .i64 0, .int .i64 0]), 12, 120) := by kernel_rfl
def zerosRule (n : Nat) : Array Value := madeCells #[.string { data := #[] }, .int .i64 0, .int .i64 0, .int .i64 0, .int .i64 0, .int .i64 0, .slice none 0 0, .int .i64 0, .int .i64 0, .int .i64 0, .int .i64 0, .int .i64 0] (n * 12)
theorem make_rules (n : Nat) (hn : n ≤ 1048576) (w : World) :
    (Instr.makeSlice 31 (.int .i64 n) (.int .i64 n)).run Try.prog w = .ok (.slice (some ⟨w.heap.size, 0, none⟩) n n) (w.alloc (.cells (zerosRule n) 84)) := by
  have hi := info_rule
  cases h : Try.prog.info? 84 with
  | none => rw [h] at hi; simp at hi
  | some i =>
    rw [h] at hi
    simp at hi
    obtain ⟨h1, h2, h3⟩ := hi
    have := run_make (P := Try.prog) w 31 84 i (.agg #[.string { data := #[] }, .int .i64 0, .int .i64 0, .int .i64 0, .int .i64 0, .int .i64 0, .slice none 0 0, .int .i64 0, .int .i64 0, .int .i64 0, .int .i64 0, .int .i64 0]) Try.underlying31 h h1 .i64 .i64 n n (by omega) (by omega) (by rw [h3]; omega) (by omega)
    rw [this, h2]
    rfl

/-- From cell off on block b holds one; what is looked for lies in rows of the call's own, from lo on and ahead of hi. -/
def RuHas (w : World) (lo hi b off : Nat) (x : Ru) : Prop := ∃ d S, Twelve w b off x (some ⟨d, 0, none⟩) x.ks.len ∧ RowOwn w lo d S x.ks ∧ (∀ y ∈ d :: S, y < hi) ∧ x.nm.size ≤ maxLen
theorem RuHas.move {w w' : World} {lo hi b off : Nat} {x : Ru} (h : RuHas w lo hi b off x) (hc : ∀ o, off ≤ o → o < off + 12 → w'.cell? ⟨b, o, none⟩ = w.cell? ⟨b, o, none⟩) (hk : ∀ y, lo ≤ y → y < hi → w'.heap[y]? = w.heap[y]?) : RuHas w' lo hi b off x := by
  obtain ⟨d, S, ht, ho, hh, hn⟩ := h
  exact ⟨d, S, ht.move hc, ho.of_blocks (fun y hy => hk y (ho.ge y hy) (hh y hy)), hh, hn⟩
theorem RuHas.rd {w : World} {lo hi b off : Nat} {x : Ru} (h : RuHas w lo hi b off x) : RuRd w b off x := by
  obtain ⟨d, S, ht, ho, hh, hn⟩ := h
  exact ⟨_, _, ht, ⟨ho.slc, hn⟩⟩
/-- A row of rules, all in memory of the call's own from B on. -/
structure RusHas (w : World) (B b : Nat) (l : List Ru) : Prop where
  blk : ∃ c t, w.heap[b]? = some (.cells c t (0, 0)) ∧ c.size = l.length * 12
  ge : B ≤ b
  len : l.length ≤ maxLen
  one : ∃ M : Nat → Nat, b < M 0 ∧ M l.length ≤ w.heap.size ∧ (∀ i, i < l.length → M i ≤ M (i + 1)) ∧ ∀ i (h : i < l.length), RuHas w (M i) (M (i + 1)) b (i * 12) l[i]
theorem RusHas.lt {w : World} {B b : Nat} {l : List Ru} (h : RusHas w B b l) : b < w.heap.size := by
  obtain ⟨c, t, hb, _⟩ := h.blk
  exact (Array.getElem?_eq_some_iff.1 hb).1
theorem up_le {M : Nat → Nat} {n : Nat} (h : ∀ i, i < n → M i ≤ M (i + 1)) : ∀ j i, i ≤ j → j ≤ n → M i ≤ M j
  | 0, i, hi, _ => by obtain rfl : i = 0 := by omega
                      exact Nat.le_refl _
  | j + 1, i, hi, hj => by
    by_cases e : i = j + 1
    · subst e; exact Nat.le_refl _
    · exact Nat.le_trans (up_le h j i (by omega) (by omega)) (h j (by omega))
theorem RusHas.keeps {w w' : World} {B b : Nat} {l : List Ru} (h : RusHas w B b l) (k : Keeps B w w') : RusHas w' B b l := by
  have hb := k.2 b h.ge h.lt
  obtain ⟨c, t, hc, hcs⟩ := h.blk
  obtain ⟨M, m0, m1, m2, m3⟩ := h.one
  refine ⟨⟨c, t, hb.trans hc, hcs⟩, h.ge, h.len, M, m0, Nat.le_trans m1 k.1, m2, fun i hi => (m3 i hi).move (fun o _ _ => by simp [World.cell?, hb]) (fun y h1 h2 => k.2 y ?_ ?_)⟩
  · have := up_le m2 i 0 (by omega) (by omega); have := h.ge; omega
  · have := up_le m2 l.length (i + 1) (by omega) (by omega); omega
theorem RusHas.below {w w' : World} {B b : Nat} {l : List Ru} (h : RusHas w B b l) (hb : Below w.heap.size w w') : RusHas w' B b l := h.keeps (Keeps.of_below hb)
theorem RusHas.rus {w : World} {B b : Nat} {l : List Ru} (h : RusHas w B b l) : Rus w (some ⟨b, 0, none⟩) l := by
  obtain ⟨M, m0, m1, m2, m3⟩ := h.one
  exact ⟨h.len, fun _ => ⟨b, 0, rfl, h.lt, fun i hi => by rw [Nat.zero_add]; exact (m3 i hi).rd⟩⟩
theorem RusHas.low {w : World} {B B' b : Nat} {l : List Ru} (h : RusHas w B b l) (hB : B' ≤ B) : RusHas w B' b l :=
  ⟨h.blk, Nat.le_trans hB h.ge, h.len, h.one⟩

/-- What the copy of a list hands back: a row of its own. -/
def CopyRs (w : World) (l : List Ru) (e : Ending) (w' : World) : Prop :=
  e = .returned (.slice (some ⟨w.heap.size, 0, none⟩) l.length l.length) ∧ RusHas w' w.heap.size w.heap.size l ∧ Below w.heap.size w w'

set_option maxHeartbeats 4000000 in
theorem toRuleS_any (a : Option Addr) (cap : Nat) (l : List Ru) (w : World) (h : Rus w a l) (hn : rusSize l ≤ 1048576) :
    Calls Try.prog 18 #[.slice a l.length cap] w (CopyRs w l) := by
  have hse : rusSize l = l.length + rusTotal l := rfl
  have hmk := make_rules l.length (by omega)
  have hln : l.length ≤ 1048576 := by omega
  go_enter Try.func18, Try.ntmps18
  go_wp2
  go_loopw [4] (fun i wr => ∃ k : Nat, k ≤ l.length ∧ i = .int .i64 k ∧ (∃ c t, wr.heap[w.heap.size]? = some (.cells c t (0, 0)) ∧ c.size = l.length * 12) ∧
      (∃ M : Nat → Nat, w.heap.size < M 0 ∧ M k ≤ wr.heap.size ∧ (∀ i, i < k → M i ≤ M (i + 1)) ∧ ∀ i (h : i < l.length), i < k → RuHas wr (M i) (M (i + 1)) w.heap.size (i * 12) l[i]) ∧ Below w.heap.size w wr ∧ w.heap.size < wr.heap.size) (fun i _ => l.length - (intOf i).toNat)
  case atStart =>
    exact ⟨0, Nat.zero_le _, rfl, ⟨zerosRule l.length, _, heap_alloc_new w _, by simp [zerosRule, size_madeCells]⟩, ⟨fun _ => w.heap.size + 1, by show _ < w.heap.size + 1; omega, by simp, fun i hi => by omega, fun i h hi => by omega⟩, (Below.refl _ _).alloc (Nat.le_refl _) _, by simp⟩
  case round =>
    obtain ⟨k, hk, rfl, ⟨c, t, hrow, hcs⟩, hM, hb, hz⟩ := hrel
    by_cases hlt : k < l.length
    · obtain ⟨b, off, p, pc, rfl, hbl, ht, hids⟩ := (h.below hb).at hlt
      have hil : l[k].ks.size ≤ 1048576 := by have := rusTotal_get hlt; unfold ruSize at this; omega
      have hM' : Hid (∃ M : Nat → Nat, w.heap.size < M 0 ∧ M k ≤ wr.heap.size ∧ (∀ i, i < k → M i ≤ M (i + 1)) ∧ ∀ i (h : i < l.length), i < k → RuHas wr (M i) (M (i + 1)) w.heap.size (i * 12) l[i]) := hM
      obtain ⟨o, ho⟩ : ∃ o, l[k] = o := ⟨_, rfl⟩
      have Ho : Hid (l[k] = o) := ho
      rw [ho] at ht hids hil
      clear hmk hse hM ho
      obtain ⟨q0, q1, q2, q3, q4, q5, q6, q7, q8, q9, q10, q11⟩ := ht
      go_wp2_with fail
      refine (toRule_any o p pc _ hids hil).mono ?_
      rintro e w1 ⟨d, S, rfl, hown, hb1⟩
      clear q0 q1 q2 q3 q4 q5 q6 q7 q8 q9 q10 q11
      have hrow1 : w1.heap[w.heap.size]? = some (.cells c t (0, 0)) := (hb1.block _ hz).trans hrow
      have fz : ∀ o, w1.frozen? ⟨w.heap.size, o, none⟩ = false := fun o => by simp [World.frozen?, hrow1]
      have hold : ∀ j, j < 12 → ∃ y, w1.cell? ⟨w.heap.size, k * 12 + j, none⟩ = some y := fun j hj => ⟨c[k * 12 + j]'(by omega), by rw [xCell hrow1]; exact Array.getElem?_eq_getElem (by omega)⟩
      obtain ⟨y0, x0⟩ := hold 0 (by omega)
      obtain ⟨y1, x1⟩ := hold 1 (by omega)
      obtain ⟨y2, x2⟩ := hold 2 (by omega)
      obtain ⟨y3, x3⟩ := hold 3 (by omega)
      obtain ⟨y4, x4⟩ := hold 4 (by omega)
      obtain ⟨y5, x5⟩ := hold 5 (by omega)
      obtain ⟨y6, x6⟩ := hold 6 (by omega)
      obtain ⟨y7, x7⟩ := hold 7 (by omega)
      obtain ⟨y8, x8⟩ := hold 8 (by omega)
      obtain ⟨y9, x9⟩ := hold 9 (by omega)
      obtain ⟨y10, x10⟩ := hold 10 (by omega)
      obtain ⟨y11, x11⟩ := hold 11 (by omega)
      simp only [Nat.add_zero] at x0
      clear hold
      unfold ruV ruC
      go_wp2
      have st := ((((((((((((st_nil (k * 12) hrow1).snoc 0 rfl (by omega) (.string o.nm)).snoc 1 rfl (by omega) (.int .i64 o.pri)).snoc 2 rfl (by omega) (.int .i64 o.mode)).snoc 3 rfl (by omega) (.int .i64 o.kd)).snoc 4 rfl (by omega) (.int .i64 o.sy)).snoc 5 rfl (by omega) (.int .i64 o.n)).snoc 6 rfl (by omega) (.slice (some ⟨d, 0, none⟩) o.ks.len o.ks.len)).snoc 7 rfl (by omega) (.int .i64 o.lo)).snoc 8 rfl (by omega) (.int .i64 o.hi)).snoc 9 rfl (by omega) (.int .i64 o.key)).snoc 10 rfl (by omega) (.int .i64 o.add)).snoc 11 rfl (by omega) (.int .i64 o.ra)
      simp only [Nat.add_zero] at st
      have hbe : Below w.heap.size w w1 := hb.trans (hb1.mono hb.size)
      have hs1 := hb1.size
      have hbz := (((((((((((hbe.setCell (p := ⟨w.heap.size, k * 12, none⟩) (Nat.le_refl _) (.string o.nm)).setCell (p := ⟨w.heap.size, k * 12 + 1, none⟩) (Nat.le_refl _) (.int .i64 o.pri)).setCell (p := ⟨w.heap.size, k * 12 + 2, none⟩) (Nat.le_refl _) (.int .i64 o.mode)).setCell (p := ⟨w.heap.size, k * 12 + 3, none⟩) (Nat.le_refl _) (.int .i64 o.kd)).setCell (p := ⟨w.heap.size, k * 12 + 4, none⟩) (Nat.le_refl _) (.int .i64 o.sy)).setCell (p := ⟨w.heap.size, k * 12 + 5, none⟩) (Nat.le_refl _) (.int .i64 o.n)).setCell (p := ⟨w.heap.size, k * 12 + 6, none⟩) (Nat.le_refl _) (.slice (some ⟨d, 0, none⟩) o.ks.len o.ks.len)).setCell (p := ⟨w.heap.size, k * 12 + 7, none⟩) (Nat.le_refl _) (.int .i64 o.lo)).setCell (p := ⟨w.heap.size, k * 12 + 8, none⟩) (Nat.le_refl _) (.int .i64 o.hi)).setCell (p := ⟨w.heap.size, k * 12 + 9, none⟩) (Nat.le_refl _) (.int .i64 o.key)).setCell (p := ⟨w.heap.size, k * 12 + 10, none⟩) (Nat.le_refl _) (.int .i64 o.add)).setCell (p := ⟨w.heap.size, k * 12 + 11, none⟩) (Nat.le_refl _) (.int .i64 o.ra)
      generalize (World.setCell _ ⟨w.heap.size, k * 12 + 11, none⟩ (.int .i64 o.ra)) = wz at st hbz ⊢
      obtain ⟨⟨c', hr', hcs', hin, hout⟩, hoth, hsz⟩ := st
      obtain ⟨M, m0, m1, m2, m3⟩ := hM'.out
      have hup := up_le m2 k 0 (by omega) (by omega)
      refine ⟨⟨k + 1, by omega, by go_num, ⟨c', t, hr', by omega⟩, ⟨fun i => if i ≤ k then M i else w1.heap.size, by simpa using m0, by show (if k + 1 ≤ k then M (k + 1) else w1.heap.size) ≤ _; rw [if_neg (by omega)]; omega, fun i hi => ?_, fun i hi hik => ?_⟩, hbz, by omega⟩, by simp [intOf]; omega⟩
      · simp only
        by_cases e : i = k
        · subst e; rw [if_pos (Nat.le_refl _), if_neg (by omega)]; omega
        · rw [if_pos (by omega), if_pos (by omega)]; exact m2 i (by omega)
      simp only
      by_cases hie : i = k
      · subst hie
        rw [Ho.out, if_pos (Nat.le_refl _), if_neg (by omega)]
        have g : ∀ j v, ([.string o.nm, .int .i64 o.pri, .int .i64 o.mode, .int .i64 o.kd, .int .i64 o.sy, .int .i64 o.n, .slice (some ⟨d, 0, none⟩) o.ks.len o.ks.len, .int .i64 o.lo, .int .i64 o.hi, .int .i64 o.key, .int .i64 o.add, .int .i64 o.ra] : List Value)[j]? = some v → wz.cell? ⟨w.heap.size, i * 12 + j, none⟩ = some v :=
          fun j v hj => (xCell hr' _).trans (hin j v hj)
        exact ⟨d, S, ⟨g 0 _ rfl, g 1 _ rfl, g 2 _ rfl, g 3 _ rfl, g 4 _ rfl, g 5 _ rfl, g 6 _ rfl, g 7 _ rfl, g 8 _ rfl, g 9 _ rfl, g 10 _ rfl, g 11 _ rfl⟩, (hown.low (by omega)).of_blocks (fun y hy => hoth y (by have := hown.ge y hy; omega)), hown.lt, hids.nm⟩
      · rw [if_pos (by omega), if_pos (by omega)]
        have hh := m3 i hi (by omega)
        have hu1 := up_le m2 i 0 (by omega) (by omega)
        have hu2 := up_le m2 k (i + 1) (by omega) (by omega)
        refine (hh.move (fun q _ _ => hb1.cell hz) (fun y h1 h2 => hb1.block y (by omega))).move (fun q hq1 hq2 => ?_) (fun y h1 h2 => hoth y (by omega))
        rw [xCell hr', xCell hrow1]
        exact hout q (by omega)
    · go_wp2
      go_ret
      obtain rfl : k = l.length := by omega
      obtain ⟨M, m0, m1, m2, m3⟩ := hM
      exact ⟨rfl, ⟨⟨c, t, hrow, hcs⟩, Nat.le_refl _, h.len, M, m0, m1, m2, fun i hi => m3 i hi hi⟩, hb⟩
end Go.Proofs.Ythlddehmebgfoaa
