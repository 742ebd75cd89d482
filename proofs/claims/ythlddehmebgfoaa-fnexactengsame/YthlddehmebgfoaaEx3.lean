/- The laws' copy of what is looked for: rows of its own. -/
import Derived.Test.YthlddehmebgfoaaEx2
namespace Go.Proofs.Ythlddehmebgfoaa
open Go.ChangeShapes Go.WideShapes Go.ChangeAt Go.RowKit
set_option linter.unusedVariables false
set_option maxRecDepth 4000

theorem info_ex : (Try.prog.info? 82).map (fun i => (i.zero, i.size, i.bytes)) = some (some (.agg #[.int .i64 0, .int .i64 0, .int .i64 0, .slice none 0 0]), 4, 48) := by kernel_rfl

def zerosEx (n : Nat) : Array Value := madeCells #[.int .i64 0, .int .i64 0, .int .i64 0, .slice none 0 0] (n * 4)

theorem make_exs (n : Nat) (hn : n ≤ 1048576) (w : World) :
    (Instr.makeSlice 80 (.int .i64 n) (.int .i64 n)).run Try.prog w = .ok (.slice (some ⟨w.heap.size, 0, none⟩) n n) (w.alloc (.cells (zerosEx n) 82)) := by
  have hi := info_ex
  cases h : Try.prog.info? 82 with
  | none => rw [h] at hi; simp at hi
  | some i =>
    rw [h] at hi
    simp at hi
    obtain ⟨h1, h2, h3⟩ := hi
    have := run_make (P := Try.prog) w 80 82 i (.agg #[.int .i64 0, .int .i64 0, .int .i64 0, .slice none 0 0]) Try.underlying80 h h1 .i64 .i64 n n (by omega) (by omega) (by rw [h3]; omega) (by omega)
    rw [this, h2]
    rfl

/-- What the copy of a list hands back. -/
def CopyS (w : World) (F : Fo) (e : Ending) (w' : World) : Prop :=
  ∃ S, e = .returned (.slice (some ⟨w.heap.size, 0, none⟩) F.len F.len) ∧ RowOwn w' w.heap.size w.heap.size S F ∧ Below w.heap.size w w'
/-- What the copy of one hands back. -/
def Copy (w : World) (kd sy n : Int) (F : Fo) (e : Ending) (w' : World) : Prop :=
  ∃ b S, e = .returned (.agg #[.int .i64 kd, .int .i64 sy, .int .i64 n, .slice (some ⟨b, 0, none⟩) F.len F.len]) ∧ RowOwn w' w.heap.size b S F ∧ Below w.heap.size w w'

theorem RowOwn.low {w : World} {B B' b : Nat} {S : List Nat} {F : Fo} (h : RowOwn w B b S F) (hB : B' ≤ B) : RowOwn w B' b S F :=
  ⟨h.blk, h.own, h.apart, fun x hx => Nat.le_trans hB (h.ge x hx), h.len⟩

theorem alloc3_third (w : World) (A B C : Obj) : (((w.alloc A).alloc B).alloc C).heap[w.heap.size + 1 + 1]? = some C := by
  have := heap_alloc_new ((w.alloc A).alloc B) C
  simpa only [World.size_alloc] using this
theorem alloc3_second (w : World) (A B C : Obj) : (((w.alloc A).alloc B).alloc C).heap[w.heap.size + 1]? = some B := by
  have := heap_alloc_new (w.alloc A) B
  rw [World.size_alloc] at this
  exact (Below.heap_alloc _ _ _ (by simp)).trans this

set_option maxHeartbeats 400000 in
theorem toEx_of (kd sy n : Int) (a : Option Addr) (cap : Nat) (F : Fo) (w : World)
    (hS : ∀ w', Below w.heap.size w w' → Calls Try.prog 78 #[.slice a F.len cap] w' (CopyS w' F)) :
    Calls Try.prog 63 #[.agg #[.int .i64 kd, .int .i64 sy, .int .i64 n, .slice a F.len cap]] w (Copy w kd sy n F) := by
  go_enter Try.func63, Try.ntmps63
  go_wp2_with fail
  have hb0 : Below w.heap.size w (((w.alloc (.cells #[.int .i64 kd, .int .i64 sy, .int .i64 n, .slice a F.len cap] 68)).alloc (.cells #[.int .i64 0, .int .i64 0, .int .i64 0, .slice none 0 0] 82)).alloc (.cells #[.int .i64 kd, .int .i64 sy, .int .i64 n, .slice none 0 0] 82)) :=
    (((Below.refl _ _).alloc (Nat.le_refl _) _).alloc (by simp) _).alloc (by simp; omega) _
  refine (hS _ hb0).mono ?_
  rintro e w1 ⟨S, rfl, hO, hb1⟩
  have hbe := hb0.trans (hb1.mono hb0.size)
  have hs1 := hb1.size
  simp only [World.size_alloc] at hO hs1
  have hB2 : w1.heap[w.heap.size + 1 + 1]? = some (.cells #[.int .i64 kd, .int .i64 sy, .int .i64 n, .slice none 0 0] 82 (0, 0)) := by
    rw [hb1.block _ (by simp)]; exact alloc3_third _ _ _ _
  have hB1 : w1.heap[w.heap.size + 1]? = some (.cells #[.int .i64 0, .int .i64 0, .int .i64 0, .slice none 0 0] 82 (0, 0)) := by
    rw [hb1.block _ (by simp)]; exact alloc3_second _ _ _ _
  have c20 := cell_at hB2 0
  have c21 := cell_at hB2 1
  have c22 := cell_at hB2 2
  have c23 := cell_at hB2 3
  have c10 := cell_at hB1 0
  have c11 := cell_at hB1 1
  have c12 := cell_at hB1 2
  have c13 := cell_at hB1 3
  have f2 : ∀ o, w1.frozen? ⟨w.heap.size + 1 + 1, o, none⟩ = false := fun o => by simp [World.frozen?, hB2]
  have f1 : ∀ o, w1.frozen? ⟨w.heap.size + 1, o, none⟩ = false := fun o => by simp [World.frozen?, hB1]
  go_wp2
  refine bodyPost_ret (v := .agg #[.int .i64 kd, .int .i64 sy, .int .i64 n, .slice (some ⟨w.heap.size + 1 + 1 + 1, 0, none⟩) F.len F.len]) (by simp [results, Try.results63, go_sem, c10, c11, c12, c13]) rfl ⟨_, S, rfl, ?_, ?_⟩
  · refine (hO.low (by omega)).of_blocks fun x hx => ?_
    have := hO.ge x hx
    rw [Below.heap_setCell _ _ _ _ (by simp; omega), Below.heap_setCell _ _ _ _ (by simp; omega), Below.heap_setCell _ _ _ _ (by simp; omega), Below.heap_setCell _ _ _ _ (by simp; omega), Below.heap_setCell _ _ _ _ (by simp; omega)]
  · exact ((((hbe.setCell (by simp; omega) _).setCell (by simp) _).setCell (by simp) _).setCell (by simp) _).setCell (by simp) _

set_option maxHeartbeats 1000000 in
theorem toExS_any : ∀ (N : Nat) (F : Fo), F.size ≤ N → N ≤ 1048576 → ∀ (a : Option Addr) (cap : Nat) (w : World), Slc w a F →
    Calls Try.prog 78 #[.slice a F.len cap] w (CopyS w F) := by
  intro N
  induction N using Nat.strongRecOn with
  | _ N ih =>
  intro F hN hN1 a cap w h
  have hse := Fo.size_eq F
  have hmk := make_exs F.len (by omega)
  have hn : F.len ≤ 1048576 := by omega
  go_enter Try.func78, Try.ntmps78
  go_wp2
  go_loopw [4] (fun i wr => ∃ k : Nat, ∃ S : List Nat, k ≤ F.len ∧ i = .int .i64 k ∧ (∃ c t, wr.heap[w.heap.size]? = some (.cells c t (0, 0)) ∧ c.size = F.len * 4) ∧ OwnKids wr w.heap.size 0 k S F ∧ S.Nodup ∧ (∀ x ∈ S, w.heap.size < x) ∧ Below w.heap.size w wr ∧ w.heap.size < wr.heap.size) (fun i _ => F.len - (intOf i).toNat)
  case atStart =>
    refine ⟨0, [], Nat.zero_le _, rfl, ⟨zerosEx F.len, _, heap_alloc_new w _, by simp [zerosEx, size_madeCells]⟩, OwnKids.zero.2 rfl, List.nodup_nil, by simp, (Below.refl _ _).alloc (Nat.le_refl _) _, by simp⟩
  case round =>
    obtain ⟨k, S, hk, rfl, ⟨c, t, hrow, hcs⟩, hO, hnd, hgt, hb, hz⟩ := hrel
    by_cases hlt : k < F.len
    · obtain ⟨b, off, kd, sy, n, kids, a', cap', rfl, hbl, hd, hsz, c0, c1, c2, c3, hkids⟩ := (h.below hb).at hlt
      have hstep := fun w' hb' => ih kids.size (by omega) kids (Nat.le_refl _) (by omega) a' cap' w' (hkids.below hb')
      clear hmk ih
      go_wp2_with fail
      refine (toEx_of kd sy n a' cap' kids _ hstep).mono ?_
      rintro e w1 ⟨b1, S1, rfl, hO1, hb1⟩
      have hrow1 : w1.heap[w.heap.size]? = some (.cells c t (0, 0)) := (hb1.block _ hz).trans hrow
      have x0 := cell_at hrow1 (k * 4)
      have x1 := cell_at hrow1 (k * 4 + 1)
      have x2 := cell_at hrow1 (k * 4 + 2)
      have x3 := cell_at hrow1 (k * 4 + 3)
      rw [Array.getElem?_eq_getElem (by omega)] at x0 x1 x2 x3
      have fz : ∀ o, w1.frozen? ⟨w.heap.size, o, none⟩ = false := fun o => by simp [World.frozen?, hrow1]
      generalize c[k * 4] = y0 at x0
      generalize c[k * 4 + 1] = y1 at x1
      generalize c[k * 4 + 2] = y2 at x2
      generalize c[k * 4 + 3] = y3 at x3
      go_wp2
      obtain ⟨⟨c', hrow', hcs'⟩, z0, z1, z2, z3, zo, zb⟩ := fill4 hrow1 (j := k * 4) (by omega) (.int .i64 kd) (.int .i64 sy) (.int .i64 n) (.slice (some ⟨b1, 0, none⟩) kids.len kids.len) rfl
      have hbe : Below w.heap.size w w1 := hb.trans (hb1.mono hb.size)
      have hs1 := hb1.size
      have hO' := hO.frame (w' := _) F _ _ _ _ (fun o ho ho' => (zo o (by omega)).trans (hb1.cell hz)) (fun x hx => (zb x (by have := hgt x hx; omega)).trans (hb1.block x (hO.lt F _ _ _ _ x hx)))
      have hne : ∀ x ∈ b1 :: S1, x ≠ w.heap.size := fun x hx => by have := hO1.ge x hx; omega
      have hO1' := hO1.of_blocks fun x hx => zb x (hne x hx)
      obtain ⟨T, hT⟩ : ∃ T, T = if kids.len = 0 then [] else b1 :: S1 := ⟨_, rfl⟩
      have hTs : ∀ x ∈ T, x ∈ b1 :: S1 := fun x hx => by rw [hT] at hx; split at hx; cases hx; exact hx
      have hTn : T.Nodup := by rw [hT]; split; exact List.nodup_nil; exact hO1.apart
      refine ⟨⟨k + 1, S ++ T, by omega, by go_num, ⟨c', t, hrow', by omega⟩, ?_, ?_, ?_, ?_, ?_⟩, by simp [intOf]; omega⟩
      · refine OwnKids.snoc F _ 0 k S kd sy n kids _ _ T hO' hd (by simpa using z0) (by simpa using z1) (by simpa using z2) (by simpa using z3) hkids.len (fun e => by rw [hT, if_pos e]) (fun e => ?_)
        exact ⟨b1, S1, rfl, by rw [hT, if_neg (by omega)], hO1'.blk, hO1'.own⟩
      · refine List.nodup_append.2 ⟨hnd, hTn, fun x hx y hy => ?_⟩
        have h1 := hO.lt F _ _ _ _ x hx
        have h2 := hO1.ge y (hTs y hy)
        omega
      · intro x hx
        rcases List.mem_append.1 hx with hx | hx
        · exact hgt x hx
        · have := hO1.ge x (hTs x hx); omega
      · exact (((hbe.setCell (Nat.le_refl _) _).setCell (Nat.le_refl _) _).setCell (Nat.le_refl _) _).setCell (Nat.le_refl _) _
      · simp; omega
    · go_wp2
      go_ret
      obtain rfl : k = F.len := by omega
      exact ⟨S, rfl, ⟨⟨c, t, hrow⟩, hO, by simp [hnd]; intro hm; have := hgt _ hm; omega, fun x hx => by rcases List.mem_cons.1 hx with rfl | hx; exact Nat.le_refl _; exact Nat.le_of_lt (hgt x hx), h.len⟩, hb⟩

theorem toEx_any (kd sy n : Int) (a : Option Addr) (cap : Nat) (F : Fo) (w : World) (h : Slc w a F) (hs : F.size ≤ 1048576) :
    Calls Try.prog 63 #[.agg #[.int .i64 kd, .int .i64 sy, .int .i64 n, .slice a F.len cap]] w (Copy w kd sy n F) :=
  toEx_of kd sy n a cap F w fun w' hb => toExS_any F.size F (Nat.le_refl _) hs a cap w' (h.below hb)
end Go.Proofs.Ythlddehmebgfoaa
