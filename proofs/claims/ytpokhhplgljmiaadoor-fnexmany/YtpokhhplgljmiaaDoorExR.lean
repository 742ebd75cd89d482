/- What (*exWalk).part does: all parts are handed on, or it panics. -/
import Derived.Test.YtpokhhplgljmiaaDoorExQ
namespace Go.Proofs.YtpokhhplgljmiaaDoor
open Go.ChangeShapes Go.WideShapes Go.ChangeAt Go.RowKit
set_option linter.unusedVariables false

/-- All parts are as they should, not deeper than so, and not too many with those that were ahead. -/
def okP (d m : Nat) (kd sy n : Int) (F : Fo) : Bool := formX d kd sy n F && decide (m + 1 + F.size ≤ 12)

/-- Where the going through the parts of one stands: k of its parts are behind, mk in all. -/
structure Going (d : Nat) (F : Fo) (k mk m : Nat) (kd sy n : Int) (q : List Hd) : Prop where
  words : q.map Hd.tri ++ preF (F.drop k) = (kd, sy, n) :: preF F
  many : mk + (F.drop k).size = m + 1 + F.size
  form : formF d F = formF d (F.drop k)
theorem Going.start {d m : Nat} {F : Fo} {kd sy n : Int} {a : Option Addr} {len cap : Nat} : Going d F 0 (m + 1) m kd sy n [⟨kd, sy, n, a, len, cap⟩] := by
  constructor <;> rw [Fo.drop_zero] <;> simp [Hd.tri]
theorem okP_many {d m : Nat} {kd sy n : Int} {F : Fo} (h : okP d m kd sy n F = true) : m + 1 + F.size ≤ 12 := by
  simp only [okP, Bool.and_eq_true, decide_eq_true_eq] at h; exact h.2
theorem Going.step {d k mk m : Nat} {F kids : Fo} {kd sy n kd' sy' n' : Int} {q q4 : List Hd} (h : Going d F k mk m kd sy n q) (hd : F.drop k = .cons kd' sy' n' kids (F.drop (k + 1))) (hq : q4.map Hd.tri = (kd', sy', n') :: preF kids) (ho : okP d mk kd' sy' n' kids = true) :
    Going d F (k + 1) (mk + 1 + kids.size) m kd sy n (q ++ q4) := by
  simp only [okP, Bool.and_eq_true, decide_eq_true_eq] at ho
  refine ⟨?_, ?_, ?_⟩
  · rw [← h.words, preF_step hd]; simp [hq]
  · have := h.many; rw [size_step hd] at this; omega
  · rw [h.form, formF_step hd, ho.1]; rfl
theorem Going.bad {d k mk m : Nat} {F kids : Fo} {kd sy n kd' sy' n' : Int} {q : List Hd} (h : Going d F k mk m kd sy n q) (hd : F.drop k = .cons kd' sy' n' kids (F.drop (k + 1))) (ho : okP d mk kd' sy' n' kids = false) : okP (d + 1) m kd sy n F = false := by
  by_cases hm : mk + 1 + kids.size ≤ 12
  · have hf : formX d kd' sy' n' kids = false := by simpa [okP, hm] using ho
    have : formF d F = false := by rw [h.form, formF_step hd, hf]; rfl
    simp [okP, formX, this]
  · have := h.many
    rw [size_step hd] at this
    simp [okP]; omega
theorem Going.done {d k mk m : Nat} {F : Fo} {kd sy n : Int} {q : List Hd} (h : Going d F k mk m kd sy n q) (hh : headB kd sy n F.len = true) (hm : mk ≤ 12) (hk : F.len ≤ k) :
    okP (d + 1) m kd sy n F = true ∧ mk = m + 1 + F.size ∧ q.map Hd.tri = (kd, sy, n) :: preF F := by
  have h1 := h.words
  have h2 := h.many
  have h3 := h.form
  rw [formF_end hk] at h3
  rw [Fo.drop_end k F hk] at h1 h2
  simp only [preF, List.append_nil] at h1
  simp only [Fo.size] at h2
  refine ⟨?_, by omega, h1⟩
  simp [okP, formX, hh, h3]; omega

set_option maxRecDepth 4000 in
set_option maxHeartbeats 4000000 in
theorem part_any (w0 : World) (Bw l : Nat) (t : TypeId) (v : Value) (J : Option Nat → List Hd → World → Prop) (hE : ErrAt w0 t v) (hBw : w0.heap.size ≤ Bw) (hJ : ∀ r, Abides Bw (J r))
    (hJl : ∀ r pre A, J r pre A → r ≠ some Bw ∧ ∀ k, r = some k → k < A.heap.size)
    (hY : ∀ k r pre x A, J r pre A → Below w0.heap.size w0 A → pre.length < 12 → Bw < A.heap.size → YieldAt Fence.wide k Tryd.prog l #[Hd.val x] A fun e A' => e = .returned (.bool true) ∧ (∃ r', J r' (pre ++ [x]) A') ∧ Below w0.heap.size w0 A' ∧ A.heap.size ≤ A'.heap.size ∧
      ∀ b, Bw ≤ b → b < A.heap.size → r ≠ some b → A'.heap[b]? = A.heap[b]?) :
    ∀ (d : Nat), d ≤ 5 → ∀ (kd sy n : Int) (a : Option Addr) (cap : Nat) (F : Fo) (m : Nat) (r : Option Nat) (pre : List Hd) (A : World), Slc w0 a F → J r pre A → Below w0.heap.size w0 A → Walk A Bw l m → pre.length = m → m ≤ 12 →
    Calls Tryd.prog 41 #[.pointer (some ⟨Bw, 0, none⟩), .agg #[.int .i64 kd, .int .i64 sy, .int .i64 n, .slice a F.len cap], .int .i64 (6 - (d : Int))] A fun e A' =>
      Below w0.heap.size w0 A' ∧ ((okP d m kd sy n F = true ∧ e = .returned (.bool true) ∧ Walk A' Bw l (m + 1 + F.size : Nat) ∧ ∃ q r', q.map Hd.tri = (kd, sy, n) :: preF F ∧ J r' (pre ++ q) A') ∨
        (okP d m kd sy n F = false ∧ e = .panicked [{ v := .iface t v, recovered := false }] ∧ ∃ q r', J r' (pre ++ q) A')) := by
  intro d
  induction d with
  | zero =>
    intro _ kd sy n a cap F m r pre A hF hj hb hw hp hm
    refine (part_bad w0 A Bw l m t v (J r) pre hE hBw (hJ r) hj hb hw hm _ kd sy n a cap F (fun h => by have := h.2.1; omega)).mono ?_
    rintro e A' ⟨rfl, hb', hj'⟩
    exact ⟨hb', .inr ⟨by simp [okP, formX], rfl, [], r, by simpa using hj'⟩⟩
  | succ d ih =>
    intro hd kd sy n a cap F m r pre A hF hj hb hw hp hm
    by_cases hg : m + 1 ≤ 12 ∧ headB kd sy n F.len = true
    · obtain ⟨hm1, hh⟩ := hg
      obtain ⟨D, hD⟩ : ∃ D : Int, (6 - ((d + 1 : Nat) : Int)) = D := ⟨_, rfl⟩
      rw [hD]
      obtain ⟨W1, hW1⟩ : ∃ W1, (A.setCell ⟨Bw, 1, none⟩ (.int .i64 ((m : Int) + 1))).alloc (.cells #[.int .i64 kd, .int .i64 sy, .int .i64 n, .slice a F.len cap] 25) = W1 := ⟨_, rfl⟩
      obtain ⟨⟨j1, b1, k1, e1⟩, ⟨c0, c1, c2, c3⟩, hlt⟩ := part_start (.int .i64 kd) (.int .i64 sy) (.int .i64 n) (.slice a F.len cap) 25 hE hBw (hJ r) hj hb hw hW1
      obtain ⟨y0, y1, y2, y3⟩ := hw.cells
      obtain ⟨z0, z1, z2, z3⟩ := k1.cells
      have a1 := fun u : After W1 => u.cell z1 z3
      have a2 := fun u : After W1 => u.cell c3 hlt
      have a30 := fun u : After W1 => u.cell c0 hlt
      have a31 := fun u : After W1 => u.cell c1 hlt
      have a32 := fun u : After W1 => u.cell c2 hlt
      have hhp := (headB_parts _ _ _ _).1 hh
      rcases kindOf_any kd W1 t v e1 with ⟨hk1, hk7, T, V, K1, K2, hK, hcall⟩ | ⟨hk, hcall⟩
      · have m1 := hK.kids
        have m2 := hK.fits
        have m3 := hK.enter1
        have m4 := hK.enter2
        have hkc := hK.kids_any
        have hfc := fun s w => hK.fits_any sy n s w
        rw [hhp.2.1] at hkc
        rw [hhp.2.2] at hfc
        have bm : decide (12 < (m : Int) + 1) = false := by simp; omega
        have bd : decide (5 < D) = false := by simp; omega
        have hD5 : ¬ 5 < D := by omega
        have hD0 : 0 ≤ D := by omega
        have hD1 : D + 1 = 6 - (d : Int) := by omega
        clear hD
        have hFl := hF.len
        unfold maxLen at hFl
        clear hhp
        go_enter Tryd.func41, Tryd.ntmps41
        go_wp2_with fail
        refine (hcall _).mono ?_
        rintro e w1 ⟨rfl, rfl⟩
        go_wp2_with fail
        have hany := after_any
        refine wp_region_after (by kernel_rfl) (by kernel_rfl) ?_
        repeat (go_big_quiet_step ((first | refine calls_after (hkc _) | refine calls_after (hfc _ _))))
        refine wpQuiet_nil ?_
        intro w2 hu
        have hb2 := after_of hu
        have b2 := b1.trans (hb2.mono b1.size)
        have j2 := (hJ r).below _ _ _ j1 hb2
        have k2 := k1.below hb2
        have q0 := (hb2.cell (p := ⟨A.heap.size, 0, none⟩) hlt).trans c0
        have q1 := (hb2.cell (p := ⟨A.heap.size, 1, none⟩) hlt).trans c1
        have q2 := (hb2.cell (p := ⟨A.heap.size, 2, none⟩) hlt).trans c2
        have q3 := (hb2.cell (p := ⟨A.heap.size, 3, none⟩) hlt).trans c3
        obtain ⟨u0, u1, u2, u3⟩ := k2.cells
        clear hu a1 a2 a30 a31 a32
        go_wp2_with fail
        have b2d := b2.drew
        have d2 : Below w2.heap.size w2 w2.drew := (Below.refl _ _).drew
        obtain ⟨fn, tmps, assign, body, hy, hR⟩ := hY 7 r pre ⟨kd, sy, n, a, F.len, cap⟩ w2.drew ((hJ r).below _ _ _ j2 d2) b2d (by omega) u3
        dsimp only [Hd.val] at hy
        have hmix : Tryd.prog.follows .mixedOrders = true := by kernel_rfl
        obtain ⟨hrB, hrl⟩ := hJl _ _ _ hj
        have hrA : r ≠ some A.heap.size := fun e => by have := hrl _ e; omega
        have hbox : A.heap.size < w2.heap.size := Nat.lt_of_lt_of_le hlt hb2.size
        refine (wpIn_wide (n := 8)).1 ?_
        gi_region_with_o (refine hR.mono ?_; rintro e w3 ⟨rfl, ⟨r3, j3⟩, b3, sz3, k3⟩)
        all_goals have s3 := (World.cell?_of_block (a := ⟨A.heap.size, 3, none⟩) (k3 _ (Nat.le_of_lt y3) hbox hrA)).trans q3
        all_goals have k3' : Walk w3 Bw l ((m : Int) + 1) := (k3 _ (Nat.le_refl _) u3 hrB).trans k2
        all_goals clear hy hR k3 u0 u1 u2 u3 q0 q1 q2 q3
        all_goals go_wp2
        all_goals
          go_loopw [9, 54] (fun p i wr => ∃ (k mk : Nat) (q : List Hd) (rk : Option Nat), k ≤ F.len ∧ i = .int .i64 k ∧ Hid (Going d F k mk m kd sy n q) ∧ mk ≤ 12 ∧ pre.length + q.length = mk ∧ Below w0.heap.size w0 wr ∧ Walk wr Bw l mk ∧ J rk (pre ++ q) wr) (fun _ i _ => F.len - (intOf i).toNat)
          case atStart => exact ⟨0, m + 1, [⟨kd, sy, n, a, F.len, cap⟩], r3, Nat.zero_le _, rfl, Going.start, hm1, by simp; omega, b3, k3', j3⟩
          case round =>
            obtain ⟨k, mk, q, rk, hk, rfl, hgo, hmk, hql, hbr, hwk, hjk⟩ := hrel
            by_cases hlk : k < F.len
            · obtain ⟨b, off, kd', sy', n', kids, p, cp, rfl, hbl, hdr, hsz, x0, x1, x2, x3, hkids⟩ := hF.at hlk
              have x0 := (hbr.cell (p := ⟨b, off + k * 4, none⟩) hbl).trans x0
              have x1 := (hbr.cell (p := ⟨b, off + k * 4 + 1, none⟩) hbl).trans x1
              have x2 := (hbr.cell (p := ⟨b, off + k * 4 + 2, none⟩) hbl).trans x2
              have x3 := (hbr.cell (p := ⟨b, off + k * 4 + 3, none⟩) hbl).trans x3
              have hdr' : Hid (F.drop k = _) := hdr
              clear hdr
              have ha4 : Below wr.heap.size wr (wr.alloc (.cells #[.int .i64 kd', .int .i64 sy', .int .i64 n', .slice p kids.len cp] 25)) := bel1 _ _
              have hcall := ih (by omega) kd' sy' n' p cp kids mk rk (pre ++ q) _ hkids ((hJ rk).below _ _ _ hjk ha4) (hbr.trans (ha4.mono hbr.size)) (hwk.below ha4) (by simp; omega) hmk
              clear ih
              go_wp2_with fail
              refine hcall.mono ?_
              rintro e w4 ⟨b4, ⟨ho, rfl, hw4, q4, r4, hq4, hj4⟩ | ⟨ho, rfl, q4, r4, hj4⟩⟩
              · go_wp2
                refine ⟨⟨k + 1, mk + 1 + kids.size, q ++ q4, r4, by omega, by go_num, hgo.out.step hdr'.out hq4 ho, okP_many ho, ?_, b4, hw4, by simpa using hj4⟩, by simp [intOf]; omega⟩
                have := congrArg List.length hq4
                simp [preF_len] at this ⊢
                omega
              · go_wp2
                exact ⟨rfl, b4, .inr ⟨hgo.out.bad hdr'.out ho, rfl, q ++ q4, r4, by simpa using hj4⟩⟩
            · clear ih
              go_wp2
              go_ret
              obtain ⟨g1, g2, g3⟩ := hgo.out.done hh hmk (by omega)
              exact ⟨hbr, .inl ⟨g1, rfl, by rw [← g2]; exact hwk, q, rk, g3, hjk⟩⟩
      · exact absurd hhp.1 hk
    · refine (part_bad w0 A Bw l m t v (J r) pre hE hBw (hJ r) hj hb hw hm _ kd sy n a cap F (fun h => hg ⟨h.1, h.2.2⟩)).mono ?_
      rintro e A' ⟨rfl, hb', hj'⟩
      refine ⟨hb', .inr ⟨?_, rfl, [], r, by simpa using hj'⟩⟩
      cases hh : headB kd sy n F.len
      · simp [okP, formX, hh]
      · have : ¬ m + 1 ≤ 12 := fun h => hg ⟨h, hh⟩
        simp [okP]; omega
end Go.Proofs.YtpokhhplgljmiaaDoor
