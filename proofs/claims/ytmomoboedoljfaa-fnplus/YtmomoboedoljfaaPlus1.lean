/- What comes later: the specification's PlusOf at a list, a delay and a time that is no end of the numbers. -/
import Derived.Test.YtmomoboedoljfaaOccAs
import Derived.Test.YtmomoboedoljfaaOccPl
namespace Go.Proofs.Ytmomoboedoljfaa
open Go.ChangeShapes Go.WideShapes Go.ChangeAt Go.RowKit
set_option linter.unusedVariables false
set_option maxRecDepth 4000
/-- The same, so much later. -/
def laterO (n : Int) (o : Occ) : Occ := ⟨o.fr, o.tl + n, o.ids⟩
def inTime (n till : Int) (o : Occ) : Bool := decide (o.tl + n ≤ till) && decide (o.tl + n ≤ 2000)
/-- All of a list, so much later, that are in time. -/
def plusF (n till : Int) (l : List Occ) : List Occ := (l.filter (inTime n till)).map (laterO n)
theorem ocmp_later (n : Int) (x y : Occ) : ocmp (laterO n x) (laterO n y) = ocmp x y := by
  have e : cmpI (x.tl + n) (y.tl + n) = cmpI x.tl y.tl := by
    unfold cmpI
    by_cases h : x.tl < y.tl
    · rw [if_pos h, if_pos (by omega)]
    · rw [if_neg h, if_neg (by omega)]
      by_cases h2 : y.tl < x.tl
      · rw [if_pos h2, if_pos (by omega)]
      · rw [if_neg h2, if_neg (by omega)]
  rw [ocmp_def, ocmp_def]
  simp only [laterO, e]
  rfl
theorem asc_later {n : Int} {l : List Occ} (h : AscO l) : AscO (l.map (laterO n)) := by
  unfold AscO at h ⊢
  rw [List.pairwise_map]
  exact h.imp (fun {a b} hab => by rw [ocmp_later]; exact hab)
theorem asc_plus {n till : Int} {l : List Occ} (h : AscO l) : AscO (plusF n till l) := asc_later (List.Pairwise.filter _ h)
theorem later_ok {n : Int} {o : Occ} (h : o.Ok) (h0 : 0 ≤ n) (h1 : o.tl + n ≤ 2000) : (laterO n o).Ok := by
  have b : occOkB o.fr o.tl o.ids = true := h
  simp only [occOkB, Bool.and_eq_true, decide_eq_true_eq] at b
  show occOkB o.fr (o.tl + n) o.ids = true
  simp only [occOkB, Bool.and_eq_true, decide_eq_true_eq]
  exact ⟨by omega, b.2⟩
theorem plus_ok {n till : Int} {l : List Occ} (h : ∀ o ∈ l, o.Ok) (h0 : 0 ≤ n) : ∀ o ∈ plusF n till l, o.Ok := fun o ho => by
  obtain ⟨x, hx, rfl⟩ := List.mem_map.1 ho
  obtain ⟨h1, h2⟩ := List.mem_filter.1 hx
  simp only [inTime, Bool.and_eq_true, decide_eq_true_eq] at h2
  exact later_ok (h x h1) h0 h2.2
theorem plus_len (n till : Int) (l : List Occ) : (plusF n till l).length ≤ l.length := by
  unfold plusF
  rw [List.length_map]
  exact List.length_filter_le _ _
/-- One more: it is put at the end. -/
theorem plus_step {n till : Int} {l : List Occ} {j : Nat} (hl : AscO l) (h : j < l.length) (hin : inTime n till l[j] = true) : putF (laterO n l[j]) (plusF n till (l.take j)) = plusF n till (l.take (j + 1)) := by
  have htake : ∀ k, AscO (l.take k) := fun k => hl.sublist (List.take_sublist k l)
  refine ascO_ext _ _ (asc_putF _ _ (asc_plus (htake j))) (asc_plus (htake (j + 1))) (fun z => ?_)
  rw [mem_putF]
  unfold plusF
  rw [List.take_succ_eq_append_getElem h, List.filter_append, List.map_append, List.mem_append]
  simp [hin]
theorem plus_skip {n till : Int} {l : List Occ} {j : Nat} (h : j < l.length) (hin : inTime n till l[j] = false) : plusF n till (l.take j) = plusF n till (l.take (j + 1)) := by
  unfold plusF
  rw [List.take_succ_eq_append_getElem h, List.filter_append, List.map_append]
  simp [hin]
theorem own_low {w : World} {B B' : Nat} {a : Option Addr} {l : List Int} (h : IntOwn w B a l) (hB : B' ≤ B) : IntOwn w B' a l :=
  ⟨h.len, fun q hq => Nat.le_trans hB (h.ge q hq), fun hl => by
    obtain ⟨b, e, q1, q2⟩ := h.row hl
    exact ⟨b, e, Nat.le_trans hB q1, q2⟩⟩
set_option maxHeartbeats 1000000 in
theorem l5Later_any (o : Occ) (a : Option Addr) (cap : Nat) (n : Int) (w : World) (h : Ints w a o.ids) (h0 : 0 < o.ids.length) (hn : o.ids.length ≤ 1048576) (ht0 : -100000 ≤ o.tl) (ht1 : o.tl ≤ 100000) (hn0 : -100000 ≤ n) (hn1 : n ≤ 100000) :
    Calls Try.prog 37 #[.agg #[.int .i64 o.fr, .int .i64 o.tl, .slice a o.ids.length cap], .int .i64 n] w (CopyC w (laterO n o)) := by
  go_enter Try.func37, Try.ntmps37
  have hal := below_two w (.cells #[.int .i64 o.fr, .int .i64 o.tl, .slice a o.ids.length cap] 32) (.cells #[.int .i64 0, .int .i64 0, .slice none 0 0] 32)
  have hC0 : ((w.alloc (.cells #[.int .i64 o.fr, .int .i64 o.tl, .slice a o.ids.length cap] 32)).alloc (.cells #[.int .i64 0, .int .i64 0, .slice none 0 0] 32)).heap[w.heap.size + 1]? = some (.cells #[.int .i64 0, .int .i64 0, .slice none 0 0] 32 (0, 0)) := by
    have := heap_alloc_new (w.alloc (.cells #[.int .i64 o.fr, .int .i64 o.tl, .slice a o.ids.length cap] 32)) (.cells #[.int .i64 0, .int .i64 0, .slice none 0 0] 32)
    rwa [World.size_alloc] at this
  have hs0 : ((w.alloc (.cells #[.int .i64 o.fr, .int .i64 o.tl, .slice a o.ids.length cap] 32)).alloc (.cells #[.int .i64 0, .int .i64 0, .slice none 0 0] 32)).heap.size = w.heap.size + 2 := by simp
  have hX0 := (box3_new w (.int .i64 o.fr) (.int .i64 o.tl) (.slice a o.ids.length cap) 32).below (oBelow_new _ (.cells #[.int .i64 0, .int .i64 0, .slice none 0 0] 32))
  obtain ⟨w0, hw0⟩ : ∃ w0, (w.alloc (.cells #[.int .i64 o.fr, .int .i64 o.tl, .slice a o.ids.length cap] 32)).alloc (.cells #[.int .i64 0, .int .i64 0, .slice none 0 0] 32) = w0 := ⟨_, rfl⟩
  rw [hw0] at hal hC0 hs0 hX0
  obtain ⟨x0, x1, x2⟩ := hX0.cells
  have Hs0 : Hid (w0.heap.size = w.heap.size + 2) := hs0
  obtain ⟨C, hC⟩ : ∃ C, w.heap.size + 1 = C := ⟨_, rfl⟩
  have HC : Hid (w.heap.size + 1 = C) := hC
  have hcp := l3Copy_any o a cap w0 (h.below hal) h0 hn
  rw [hC] at hC0
  clear hs0
  go_wp2_with fail
  refine hcp.mono ?_
  rintro e w1 ⟨a1, c1, rfl, hi1, hl1, hb1⟩
  have hC1 := (hb1.block C (by rw [Hs0.out]; have := HC.out; omega)).trans hC0
  have z0 := oCell hC1 0
  have z1 := oCell hC1 1
  have z2 := oCell hC1 2
  simp at z0 z1 z2
  have hCl : C < w1.heap.size := (Array.getElem?_eq_some_iff.1 hC1).1
  have fC : ∀ i, w1.frozen? ⟨C, i, none⟩ = false := fun i => by simp [World.frozen?, hC1]
  have hwr : IntKind.i64.wrap (o.tl + n) = o.tl + n := by rw [IntKind.wrap_i64]; omega
  have b1 : Below w.heap.size w w1 := hal.trans (hb1.mono hal.size)
  clear hcp hw0 hC
  go_wp2
  obtain ⟨u, hu⟩ : ∃ u, ((w1.setCell ⟨C, 0, none⟩ (.int .i64 o.fr)).setCell ⟨C, 1, none⟩ (.int .i64 (o.tl + n))).setCell ⟨C, 2, none⟩ (.slice a1 o.ids.length c1) = u := ⟨_, rfl⟩
  have hg : w1.grownBy u (some C) := by rw [← hu]; exact grownBy_setCell (grownBy_setCell (grownBy_setCell (grownBy_refl _ _) _) _) _
  have e0 : u.cell? ⟨C, 0, none⟩ = some (.int .i64 o.fr) := by rw [← hu]; simp [go_sem, z0]
  have e1 : u.cell? ⟨C, 1, none⟩ = some (.int .i64 (o.tl + n)) := by rw [← hu]; simp [go_sem, z1]
  have e2 : u.cell? ⟨C, 2, none⟩ = some (.slice a1 o.ids.length c1) := by rw [← hu]; simp [go_sem, z2]
  have hCu : C < u.heap.size := Nat.lt_of_lt_of_le hCl hg.size
  have hbv := oBelow_new u (.cells #[.int .i64 o.fr, .int .i64 (o.tl + n), .slice a1 o.ids.length c1] 32)
  rw [hu]
  obtain ⟨v, hv⟩ : ∃ v, u.alloc (.cells #[.int .i64 o.fr, .int .i64 (o.tl + n), .slice a1 o.ids.length c1] 32) = v := ⟨_, rfl⟩
  rw [hv] at hbv
  rw [hv]
  have f0 := (hbv.cell (p := ⟨C, 0, none⟩) hCu).trans e0
  have f1 := (hbv.cell (p := ⟨C, 1, none⟩) hCu).trans e1
  have f2 := (hbv.cell (p := ⟨C, 2, none⟩) hCu).trans e2
  have hiv : IntOwn v w0.heap.size a1 o.ids := (hi1.only hg (fun q hq e => by
    have h1 := hi1.ge q hq
    rw [Hs0.out] at h1
    have : C = q.block := Option.some.inj e
    have := HC.out
    omega)).below hbv
  have hbu : Below w.heap.size w u := b1.grown hg b1.size (fun k hk => by
    have : C = k := Option.some.inj hk
    have := HC.out
    omega)
  have hfin : CopyC w (laterO n o) (.returned (.agg #[.int .i64 o.fr, .int .i64 (o.tl + n), .slice a1 o.ids.length c1])) v :=
    ⟨a1, c1, rfl, own_low hiv (by rw [Hs0.out]; omega), fun q hq => Nat.lt_of_lt_of_le (hl1 q hq) (Nat.le_trans hg.size hbv.size), hbu.trans (hbv.mono hbu.size)⟩
  exact bodyPost_ret (v := .agg #[.int .i64 o.fr, .int .i64 (o.tl + n), .slice a1 o.ids.length c1]) (by simp [results, Try.results37, go_sem, f0, f1, f2]) rfl hfin
set_option maxHeartbeats 1000000 in
theorem occLater_any (o : Occ) (a : Option Addr) (cap : Nat) (n : Int) (w : World) (h : Ints w a o.ids) (h0 : 0 < o.ids.length) (hn : o.ids.length ≤ 1048576) (ht0 : -100000 ≤ o.tl) (ht1 : o.tl ≤ 100000) (hn0 : -100000 ≤ n) (hn1 : n ≤ 100000) :
    Calls Try.prog 34 #[.agg #[.int .i64 o.fr, .int .i64 o.tl, .slice a o.ids.length cap], .int .i64 n] w (CopyC w (laterO n o)) := by
  go_enter Try.func34, Try.ntmps34
  have hal := below_two w (.cells #[.int .i64 o.fr, .int .i64 o.tl, .slice a o.ids.length cap] 32) (.cells #[.int .i64 0, .int .i64 0, .slice none 0 0] 32)
  have hC0 : ((w.alloc (.cells #[.int .i64 o.fr, .int .i64 o.tl, .slice a o.ids.length cap] 32)).alloc (.cells #[.int .i64 0, .int .i64 0, .slice none 0 0] 32)).heap[w.heap.size + 1]? = some (.cells #[.int .i64 0, .int .i64 0, .slice none 0 0] 32 (0, 0)) := by
    have := heap_alloc_new (w.alloc (.cells #[.int .i64 o.fr, .int .i64 o.tl, .slice a o.ids.length cap] 32)) (.cells #[.int .i64 0, .int .i64 0, .slice none 0 0] 32)
    rwa [World.size_alloc] at this
  have hs0 : ((w.alloc (.cells #[.int .i64 o.fr, .int .i64 o.tl, .slice a o.ids.length cap] 32)).alloc (.cells #[.int .i64 0, .int .i64 0, .slice none 0 0] 32)).heap.size = w.heap.size + 2 := by simp
  have hX0 := (box3_new w (.int .i64 o.fr) (.int .i64 o.tl) (.slice a o.ids.length cap) 32).below (oBelow_new _ (.cells #[.int .i64 0, .int .i64 0, .slice none 0 0] 32))
  obtain ⟨w0, hw0⟩ : ∃ w0, (w.alloc (.cells #[.int .i64 o.fr, .int .i64 o.tl, .slice a o.ids.length cap] 32)).alloc (.cells #[.int .i64 0, .int .i64 0, .slice none 0 0] 32) = w0 := ⟨_, rfl⟩
  rw [hw0] at hal hC0 hs0 hX0
  obtain ⟨x0, x1, x2⟩ := hX0.cells
  have Hs0 : Hid (w0.heap.size = w.heap.size + 2) := hs0
  obtain ⟨C, hC⟩ : ∃ C, w.heap.size + 1 = C := ⟨_, rfl⟩
  have HC : Hid (w.heap.size + 1 = C) := hC
  have hcp := occCopy_any o a cap w0 (h.below hal) h0 hn
  rw [hC] at hC0
  clear hs0
  go_wp2_with fail
  refine hcp.mono ?_
  rintro e w1 ⟨a1, c1, rfl, hi1, hl1, hb1⟩
  have hC1 := (hb1.block C (by rw [Hs0.out]; have := HC.out; omega)).trans hC0
  have z0 := oCell hC1 0
  have z1 := oCell hC1 1
  have z2 := oCell hC1 2
  simp at z0 z1 z2
  have hCl : C < w1.heap.size := (Array.getElem?_eq_some_iff.1 hC1).1
  have fC : ∀ i, w1.frozen? ⟨C, i, none⟩ = false := fun i => by simp [World.frozen?, hC1]
  have hwr : IntKind.i64.wrap (o.tl + n) = o.tl + n := by rw [IntKind.wrap_i64]; omega
  have b1 : Below w.heap.size w w1 := hal.trans (hb1.mono hal.size)
  clear hcp hw0 hC
  go_wp2
  obtain ⟨u, hu⟩ : ∃ u, ((w1.setCell ⟨C, 0, none⟩ (.int .i64 o.fr)).setCell ⟨C, 1, none⟩ (.int .i64 (o.tl + n))).setCell ⟨C, 2, none⟩ (.slice a1 o.ids.length c1) = u := ⟨_, rfl⟩
  have hg : w1.grownBy u (some C) := by rw [← hu]; exact grownBy_setCell (grownBy_setCell (grownBy_setCell (grownBy_refl _ _) _) _) _
  have e0 : u.cell? ⟨C, 0, none⟩ = some (.int .i64 o.fr) := by rw [← hu]; simp [go_sem, z0]
  have e1 : u.cell? ⟨C, 1, none⟩ = some (.int .i64 (o.tl + n)) := by rw [← hu]; simp [go_sem, z1]
  have e2 : u.cell? ⟨C, 2, none⟩ = some (.slice a1 o.ids.length c1) := by rw [← hu]; simp [go_sem, z2]
  have hCu : C < u.heap.size := Nat.lt_of_lt_of_le hCl hg.size
  have hbv := oBelow_new u (.cells #[.int .i64 o.fr, .int .i64 (o.tl + n), .slice a1 o.ids.length c1] 32)
  rw [hu]
  obtain ⟨v, hv⟩ : ∃ v, u.alloc (.cells #[.int .i64 o.fr, .int .i64 (o.tl + n), .slice a1 o.ids.length c1] 32) = v := ⟨_, rfl⟩
  rw [hv] at hbv
  rw [hv]
  have f0 := (hbv.cell (p := ⟨C, 0, none⟩) hCu).trans e0
  have f1 := (hbv.cell (p := ⟨C, 1, none⟩) hCu).trans e1
  have f2 := (hbv.cell (p := ⟨C, 2, none⟩) hCu).trans e2
  have hiv : IntOwn v w0.heap.size a1 o.ids := (hi1.only hg (fun q hq e => by
    have h1 := hi1.ge q hq
    rw [Hs0.out] at h1
    have : C = q.block := Option.some.inj e
    have := HC.out
    omega)).below hbv
  have hbu : Below w.heap.size w u := b1.grown hg b1.size (fun k hk => by
    have : C = k := Option.some.inj hk
    have := HC.out
    omega)
  have hfin : CopyC w (laterO n o) (.returned (.agg #[.int .i64 o.fr, .int .i64 (o.tl + n), .slice a1 o.ids.length c1])) v :=
    ⟨a1, c1, rfl, own_low hiv (by rw [Hs0.out]; omega), fun q hq => Nat.lt_of_lt_of_le (hl1 q hq) (Nat.le_trans hg.size hbv.size), hbu.trans (hbv.mono hbu.size)⟩
  exact bodyPost_ret (v := .agg #[.int .i64 o.fr, .int .i64 (o.tl + n), .slice a1 o.ids.length c1]) (by simp [results, Try.results34, go_sem, f0, f1, f2]) rfl hfin
end Go.Proofs.Ytmomoboedoljfaa
