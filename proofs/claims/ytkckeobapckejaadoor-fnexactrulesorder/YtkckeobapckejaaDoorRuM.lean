/- The marks are written into rules. -/
import Derived.Test.YtkckeobapckejaaDoorRu3
import Derived.Test.YtkckeobapckejaaDoorEx8
import Derived.Laws.BytesArg
import Derived.WalkLawsBesides
namespace Go.Proofs.YtkckeobapckejaaDoor
open Go.ChangeShapes Go.WideShapes Go.ChangeAt Go.RowKit Go.Deep
set_option linter.unusedVariables false
set_option maxRecDepth 4000

/-- Between w and w' only such blocks have turned, and new ones have come. -/
structure Chg (X : Nat → Prop) (w w' : World) : Prop where
  os : w'.os = w.os
  tape : w'.tape = w.tape
  output : w'.output = w.output
  size : w.heap.size ≤ w'.heap.size
  same : ∀ b, b < w.heap.size → ¬ X b → w'.heap[b]? = w.heap[b]?
theorem Chg.refl (X : Nat → Prop) (w : World) : Chg X w w := ⟨rfl, rfl, rfl, Nat.le_refl _, fun _ _ _ => rfl⟩
theorem Chg.trans {X : Nat → Prop} {w w' w'' : World} (h : Chg X w w') (k : Chg X w' w'') : Chg X w w'' :=
  ⟨k.os.trans h.os, k.tape.trans h.tape, k.output.trans h.output, Nat.le_trans h.size k.size, fun b hb hx => (k.same b (Nat.lt_of_lt_of_le hb h.size) hx).trans (h.same b hb hx)⟩
theorem Chg.of_below {X : Nat → Prop} {w w' : World} (h : Below w.heap.size w w') : Chg X w w' := ⟨h.os, h.tape, h.output, h.size, fun b hb _ => h.block b hb⟩
theorem Chg.set {X : Nat → Prop} (w : World) {b : Nat} (hx : X b) (o : Nat) (v : Value) : Chg X w (w.setCell ⟨b, o, none⟩ v) :=
  ⟨rfl, rfl, rfl, by simp, fun c _ hn => Below.heap_setCell _ _ _ _ (fun e => hn (by have : c = b := e; rw [this]; exact hx))⟩
theorem Chg.of_touch {X : Nat → Prop} {w w' : World} {S : List Nat} (h : Touch S w w') (hx : ∀ b ∈ S, X b) : Chg X w w' :=
  ⟨h.os, h.tape, h.output, h.size, fun b hb hn => h.block b hb (fun e => hn (hx b e))⟩
theorem Chg.below {X : Nat → Prop} {B : Nat} {w w' : World} (h : Chg X w w') (hB : ∀ b, X b → B ≤ b) (hs : B ≤ w.heap.size) : Below B w w' :=
  ⟨h.os, h.tape, h.output, h.size, fun b hb => h.same b (by omega) (fun hx => by have := hB b hx; omega)⟩

theorem mt_byte (c : Int) (w : World) : (convert 68 9 (.slice (some ⟨w.heap.size, 0, none⟩) 1 1)).run Tryd.prog (w.alloc (.cells #[.int .u8 c] 5)) = .ok (.string ⟨#[UInt8.ofNat c.toNat]⟩) (w.alloc (.cells #[.int .u8 c] 5)) :=
  run_convert_bytes_arg (P := Tryd.prog) (w.alloc (.cells #[.int .u8 c] 5)) 68 5 Tryd.underlying68 Tryd.underlying5 w.heap.size 0 1 1 [c] rfl (fun i hi => by
    obtain rfl : i = 0 := by omega
    simp) 9 Tryd.underlying9
theorem mt_app (a b : List UInt8) : ((⟨a.toArray⟩ : ByteArray) ++ ⟨b.toArray⟩) = ⟨(a ++ b).toArray⟩ := by
  apply ByteArray.ext
  simp [ByteArray.data_append]
theorem mt_val {a b : ByteArray} (h : a = b) : Value.string a = .string b := by rw [h]
def mtCap : Nat → Int
  | 0 => 1000000000
  | n + 1 => mtCap n / 10
theorem mtCap_10 : mtCap 10 = 0 := by decide +kernel

set_option maxHeartbeats 1000000 in
theorem markText_any (k : Int) (w : World) (h0 : 0 < k) (h1 : k ≤ 1000000000) :
    Calls Tryd.prog 36 #[.int .i64 k] w fun e w' => ∃ tx : ByteArray, e = .returned (.string tx) ∧ tx.size ≤ 11 ∧ Below w.heap.size w w' := by
  have hob := mt_byte
  have hk : ¬ k ≤ 0 := by omega
  go_enter Tryd.func36, Tryd.ntmps36
  go_wp2
  clear hk
  go_loopw [0, 3] (fun m s wr => ∃ (q : Int) (acc : List UInt8), 0 ≤ q ∧ q ≤ 1000000000 ∧ m = .int .i64 q ∧ s = .string ⟨acc.toArray⟩ ∧ Hid (q ≤ mtCap acc.length) ∧ acc.length ≤ 10 ∧ Below w.heap.size w wr) (fun m _ _ => (intOf m).toNat)
  case atStart => exact ⟨k, [], by omega, h1, rfl, rfl, (h1 : k ≤ mtCap 0), by simp, Below.refl _ _⟩
  case round =>
    obtain ⟨q, acc, hq0, hq1, rfl, rfl, hr, hl, hb⟩ := hrel
    by_cases hlt : 0 < q
    · have hl9 : acc.length ≤ 9 := by
        by_cases e : acc.length = 10
        · have := hr.out
          rw [e, mtCap_10] at this
          omega
        · omega
      have hq : Hid (q / 10 ≤ mtCap (acc.length + 1)) := by
        have := hr.out
        show q / 10 ≤ mtCap acc.length / 10
        omega
      go_wp2
      exact ⟨⟨q / 10, UInt8.ofNat (48 + q % 10).toNat :: acc, by omega, by omega, rfl, mt_val (mt_app [_] acc), by simpa using hq, by simp; omega, hb.alloc hb.size _⟩, by simp [intOf]; omega⟩
    · go_wp2
      go_ret
      exact ⟨_, rfl, by simp [ByteArray.size]; omega, hb⟩

/-- A row of rules, all from B on and ahead of N. -/
structure RusLim (w : World) (B N b : Nat) (l : List Ru) : Prop where
  blk : ∃ c t, w.heap[b]? = some (.cells c t (0, 0)) ∧ c.size = l.length * 12
  ge : B ≤ b
  lt : b < N
  len : l.length ≤ maxLen
  sz : N ≤ w.heap.size
  one : ∃ M : Nat → Nat, b < M 0 ∧ M l.length ≤ N ∧ (∀ i, i < l.length → M i ≤ M (i + 1)) ∧ ∀ i (h : i < l.length), RuHas w (M i) (M (i + 1)) b (i * 12) l[i]
theorem RusHas.lim {w : World} {B b : Nat} {l : List Ru} (h : RusHas w B b l) : RusLim w B w.heap.size b l := ⟨h.blk, h.ge, h.lt, h.len, Nat.le_refl _, h.one⟩
theorem RusLim.below {w w' : World} {B N b : Nat} {l : List Ru} (h : RusLim w B N b l) (k : Below w.heap.size w w') : RusLim w' B N b l := by
  have hsz := h.sz
  have hb := k.block b (by have := h.lt; omega)
  obtain ⟨c, t, hc, hcs⟩ := h.blk
  obtain ⟨M, m0, m1, m2, m3⟩ := h.one
  refine ⟨⟨c, t, hb.trans hc, hcs⟩, h.ge, h.lt, h.len, Nat.le_trans h.sz k.size, M, m0, m1, m2, fun i hi => (m3 i hi).move (fun o _ _ => by simp [World.cell?, hb]) (fun y h1 h2 => k.block y ?_)⟩
  have := up_le m2 l.length (i + 1) (by omega) (by omega); omega
theorem RusLim.rus {w : World} {B N b : Nat} {l : List Ru} (h : RusLim w B N b l) : Rus w (some ⟨b, 0, none⟩) l := by
  obtain ⟨M, m0, m1, m2, m3⟩ := h.one
  exact ⟨h.len, fun _ => ⟨b, 0, rfl, by have := h.lt; have := h.sz; omega, fun i hi => by rw [Nat.zero_add]; exact (m3 i hi).rd⟩⟩

def rusW : List Ru → Nat
  | [] => 0
  | x :: r => 11 + 3 * x.ks.size + rusW r
theorem rusW_step {l : List Ru} {k : Nat} (h : k < l.length) : rusW (l.drop k) = 11 + 3 * l[k].ks.size + rusW (l.drop (k + 1)) := by rw [List.drop_eq_getElem_cons h]; rfl
theorem rusW_le : ∀ (l : List Ru), rusW l ≤ 11 * l.length + 3 * rusTotal l
  | [] => by simp [rusW]
  | x :: r => by have := rusW_le r; simp only [rusW, rusTotal, ruSize, List.length_cons]; omega

theorem RowOwn.atS {w : World} {B b : Nat} {S : List Nat} {F : Fo} (h : RowOwn w B b S F) : ∃ T, OwnAt w (some ⟨b, 0, none⟩) T F ∧ T.Nodup ∧ ∀ x ∈ T, x ∈ b :: S := by
  by_cases h0 : F.len = 0
  · exact ⟨[], ⟨fun _ => rfl, fun hl => by omega⟩, List.nodup_nil, fun x hx => by cases hx⟩
  · exact ⟨b :: S, ⟨fun e => absurd e h0, fun _ => ⟨b, S, rfl, rfl, h.blk, h.own⟩⟩, h.apart, fun x hx => hx⟩

set_option maxHeartbeats 4000000 in
theorem markRuleS_any (B b cap N : Nat) (l : List Ru) (k : Int) (w : World) (h : RusLim w B N b l) (hk0 : 0 < k) (hk1 : k + rusW l ≤ 100000000) (hs : rusSize l ≤ 1048576) :
    Calls Tryd.prog 19 #[.slice (some ⟨b, 0, none⟩) l.length cap, .int .i64 k] w fun e w' => ∃ K : Int, e = .returned (.int .i64 K) ∧ 0 ≤ K ∧ Chg (fun x => B ≤ x ∧ x < N) w w' := by
  have hn := h.len
  unfold maxLen at hn
  have hbN := h.lt
  have hbw : b < w.heap.size := Nat.lt_of_lt_of_le h.lt h.sz
  have hbB := h.ge
  obtain ⟨c, t, hblk, hcs⟩ := h.blk
  obtain ⟨M, M0, M1, M2, M3⟩ := h.one
  have HM : Hid ((∀ i, i < l.length → M i ≤ M (i + 1))) := M2
  clear M2
  go_enter Tryd.func19, Tryd.ntmps19
  go_wp2
  go_loopw [1, 5] (fun q i wr => ∃ (j : Nat) (m : Int), j ≤ l.length ∧ i = .int .i64 j ∧ q = .int .i64 m ∧ 0 < m ∧ Hid (m + rusW (l.drop j) ≤ 100000000) ∧ (∃ c, wr.heap[b]? = some (.cells c t (0, 0)) ∧ c.size = l.length * 12) ∧ Hid (∀ i (h : i < l.length), j ≤ i → RuHas wr (M i) (M (i + 1)) b (i * 12) l[i]) ∧ Chg (fun x => B ≤ x ∧ x < N) w wr) (fun _ i _ => l.length - (intOf i).toNat)
  case atStart => exact ⟨0, k, Nat.zero_le _, rfl, rfl, hk0, (by simpa using hk1 : k + rusW (l.drop 0) ≤ 100000000), ⟨c, hblk, hcs⟩, (fun i hi _ => M3 i hi : ∀ i (h : i < l.length), 0 ≤ i → RuHas w (M i) (M (i + 1)) b (i * 12) l[i]), Chg.refl _ _⟩
  case round =>
    clear hblk hcs M3 c
    obtain ⟨j, m, hj, rfl, rfl, hm0, hmw, ⟨c, hblk, hcs⟩, hO, hch⟩ := hrel
    by_cases hlt : j < l.length
    · obtain ⟨d, S, ht, hown, hhi, _⟩ := hO.out j hlt (Nat.le_refl _)
      have hst : Hid (m + 11 + 3 * (l[j].ks.size : Int) + rusW (l.drop (j + 1)) ≤ 100000000) := by
        show _ ≤ _
        have := hmw.out; rw [rusW_step hlt] at this; omega
      have hks : l[j].ks.size ≤ 1048576 := by have := rusTotal_get hlt; unfold ruSize at this; unfold rusSize at hs; omega
      generalize l[j] = x at ht hown hst hks
      clear hmw
      have hm1 : m + 11 + 3 * (x.ks.size : Int) ≤ 100000000 := by have := hst.out; omega
      have hbl : b < wr.heap.size := (Array.getElem?_eq_some_iff.1 hblk).1
      go_wp2_with fail
      refine (markText_any m _ hm0 (by omega)).mono ?_
      rintro e w1 ⟨tx, rfl, _, hb1⟩
      have hblk1 : w1.heap[b]? = some (.cells c t (0, 0)) := (hb1.block _ hbl).trans hblk
      have hown1 := hown.below hb1
      have ht1 := ht.move (w' := w1) (fun q _ _ => hb1.cell hbl)
      have hch1 := hch.trans (Chg.of_below hb1)
      obtain ⟨q0, q1, q2, q3, q4, q5, q6, q7, q8, q9, q10, q11⟩ := ht1
      have fz : ∀ o, w1.frozen? ⟨b, o, none⟩ = false := fun o => by simp [World.frozen?, hblk1]
      clear hblk hown ht
      go_wp2_with fail
      obtain ⟨wM, hwM⟩ : ∃ wM, (((((w1.setCell ⟨b, j * 12, none⟩ (.string tx)).setCell ⟨b, j * 12 + 1, none⟩ (.int .i64 (m + 1))).setCell ⟨b, j * 12 + 2, none⟩ (.int .i64 (m + 1 + 1))).setCell ⟨b, j * 12 + 3, none⟩ (.int .i64 (m + 1 + 1 + 1))).setCell ⟨b, j * 12 + 3 + 1, none⟩ (.int .i64 (m + 1 + 1 + 1 + 1))).setCell ⟨b, j * 12 + 3 + 2, none⟩ (.int .i64 (m + 1 + 1 + 1 + 1 + 1)) = wM := ⟨_, rfl⟩
      rw [hwM]
      have hXb : B ≤ b ∧ b < N := ⟨hbB, hbN⟩
      have hNw : N ≤ wr.heap.size := Nat.le_trans h.sz hch.size
      have st := ((((((st_nil (j * 12) hblk1).snoc 0 rfl (by omega) (.string tx)).snoc 1 rfl (by omega) (.int .i64 (m + 1))).snoc 2 rfl (by omega) (.int .i64 (m + 1 + 1))).snoc 3 rfl (by omega) (.int .i64 (m + 1 + 1 + 1))).snoc 4 rfl (by omega) (.int .i64 (m + 1 + 1 + 1 + 1))).snoc 5 rfl (by omega) (.int .i64 (m + 1 + 1 + 1 + 1 + 1))
      have hchM : Chg (fun x => B ≤ x ∧ x < N) w wM := by rw [← hwM]; exact ((((((hch1.trans (Chg.set (X := fun x => B ≤ x ∧ x < N) _ hXb _ _)).trans (Chg.set (X := fun x => B ≤ x ∧ x < N) _ hXb _ _)).trans (Chg.set (X := fun x => B ≤ x ∧ x < N) _ hXb _ _)).trans (Chg.set (X := fun x => B ≤ x ∧ x < N) _ hXb _ _)).trans (Chg.set (X := fun x => B ≤ x ∧ x < N) _ hXb _ _)).trans (Chg.set (X := fun x => B ≤ x ∧ x < N) _ hXb _ _))
      have st : St w1 b (j * 12) c t [.string tx, .int .i64 (m + 1), .int .i64 (m + 1 + 1), .int .i64 (m + 1 + 1 + 1), .int .i64 (m + 1 + 1 + 1 + 1), .int .i64 (m + 1 + 1 + 1 + 1 + 1)] wM := by rw [← hwM]; exact st
      obtain ⟨⟨cM, hblkM, hcsM, _, houtM⟩, hothM, hszM⟩ := st
      have hup := up_le HM.out
      have hMj : b < M j := Nat.lt_of_lt_of_le M0 (hup j 0 (by omega) (by omega))
      have hownM := hown1.of_blocks (w' := wM) (fun y hy => hothM y (by have := hown1.ge y hy; omega))
      obtain ⟨T, hT, hTn, hTb⟩ := hownM.atS
      have hTlo : ∀ y ∈ T, M j ≤ y ∧ y < M (j + 1) := fun y hy => ⟨hownM.ge y (hTb y hy), hhi y (hTb y hy)⟩
      have hbT : b ∉ T := fun hx => by have := (hTlo b hx).1; omega
      clear q0 q1 q2 q3 q4 q5 q6 q7 q8 q9 q10 q11 hwM fz
      refine (markExS_any x.ks.size x.ks (Nat.le_refl _) hks _ _ T (m + 1 + 1 + 1 + 1 + 1 + 1) wM hT hTn (by omega) (by omega) hown1.len).mono ?_
      rintro e w2 ⟨rfl, _, ht2⟩
      have hblM : b < wM.heap.size := (Array.getElem?_eq_some_iff.1 hblkM).1
      have hblk2 : w2.heap[b]? = some (.cells cM t (0, 0)) := (ht2.block b hblM hbT).trans hblkM
      have hMe := hup l.length (j + 1) (by omega) (by omega)
      have hch2 := hchM.trans (Chg.of_touch (X := fun x => B ≤ x ∧ x < N) ht2 (fun y hy => by have := hTlo y hy; exact ⟨by omega, by omega⟩))
      have fz : ∀ o, w2.frozen? ⟨b, o, none⟩ = false := fun o => by simp [World.frozen?, hblk2]
      have hold : ∀ r, r < 12 → ∃ y, w2.cell? ⟨b, j * 12 + r, none⟩ = some y := fun r hr => ⟨cM[j * 12 + r]'(by omega), by rw [xCell hblk2]; exact Array.getElem?_eq_getElem (by omega)⟩
      obtain ⟨y7, x7⟩ := hold 7 (by omega)
      obtain ⟨y8, x8⟩ := hold 8 (by omega)
      obtain ⟨y9, x9⟩ := hold 9 (by omega)
      obtain ⟨y10, x10⟩ := hold 10 (by omega)
      obtain ⟨y11, x11⟩ := hold 11 (by omega)
      clear hold
      obtain ⟨m2, hm2⟩ : ∃ m2 : Int, m + 1 + 1 + 1 + 1 + 1 + 1 + 3 * (x.ks.size : Int) = m2 := ⟨_, rfl⟩
      have Hm2 : Hid (m + 1 + 1 + 1 + 1 + 1 + 1 + 3 * (x.ks.size : Int) = m2) := hm2
      have hm20 : 0 < m2 := by omega
      have hm21 : m2 ≤ 100000000 := by omega
      rw [hm2]
      clear hm2
      go_wp2_with fail
      have st5 := (((((st_nil (j * 12 + 7) hblk2).snoc 0 rfl (by omega) (.int .i64 m2)).snoc 1 rfl (by omega) (.int .i64 (m2 + 1))).snoc 2 rfl (by omega) (.int .i64 (m2 + 1 + 1))).snoc 3 rfl (by omega) (.int .i64 (m2 + 1 + 1 + 1))).snoc 4 rfl (by omega) (.int .i64 (m2 + 1 + 1 + 1 + 1))
      have ch5 := ((((hch2.trans (Chg.set (X := fun x => B ≤ x ∧ x < N) (b := b) _ hXb (j * 12 + 7) (.int .i64 m2))).trans (Chg.set (X := fun x => B ≤ x ∧ x < N) (b := b) _ hXb (j * 12 + 8) (.int .i64 (m2 + 1)))).trans (Chg.set (X := fun x => B ≤ x ∧ x < N) (b := b) _ hXb (j * 12 + 9) (.int .i64 (m2 + 1 + 1)))).trans (Chg.set (X := fun x => B ≤ x ∧ x < N) (b := b) _ hXb (j * 12 + 10) (.int .i64 (m2 + 1 + 1 + 1)))).trans (Chg.set (X := fun x => B ≤ x ∧ x < N) (b := b) _ hXb (j * 12 + 11) (.int .i64 (m2 + 1 + 1 + 1 + 1)))
      generalize hwF : (World.setCell _ ⟨b, j * 12 + 11, none⟩ (.int .i64 (m2 + 1 + 1 + 1 + 1))) = wF at st5 ch5 ⊢
      obtain ⟨⟨cF, hblkF, hcsF, _, houtF⟩, hothF, hszF⟩ := st5
      clear hwF
      refine ⟨⟨j + 1, m2 + 1 + 1 + 1 + 1 + 1, by omega, by go_num, rfl, by omega, ?_, ⟨cF, hblkF, by omega⟩, fun i hi hij => ?_, ch5⟩, by simp [intOf]; omega⟩
      · show _ ≤ _
        have := hst.out
        have := Hm2.out
        omega
      · have hh := hO.out i hi (by omega)
        have hMi : M (j + 1) ≤ M i := hup i (j + 1) (by omega) (by omega)
        have hMi2 : M (i + 1) ≤ M l.length := hup l.length (i + 1) (by omega) (by omega)
        have hMi0 : M 0 ≤ M i := hup i 0 (by omega) (by omega)
        have hw1 := hb1.size
        have hws := hch.size
        refine (((hh.move (fun q _ _ => hb1.cell hbl) (fun y h1 h2 => hb1.block y (by omega))).move (w' := wM) (fun q hq1 hq2 => ?_) (fun y h1 h2 => hothM y (by omega))).move (w' := w2) (fun q hq1 hq2 => ?_) (fun y h1 h2 => ht2.block y (by omega) (fun hy => by have := (hTlo y hy).2; omega))).move (w' := wF) (fun q hq1 hq2 => ?_) (fun y h1 h2 => hothF y (by omega))
        · rw [xCell hblkM, xCell hblk1]
          exact houtM q (.inr (by simp; omega))
        · rw [xCell hblk2, xCell hblkM]
        · rw [xCell hblkF, xCell hblk2]
          exact houtF q (.inr (by simp; omega))
    · go_wp2
      go_ret
      exact ⟨m, rfl, by omega, hch⟩
end Go.Proofs.YtkckeobapckejaaDoor
