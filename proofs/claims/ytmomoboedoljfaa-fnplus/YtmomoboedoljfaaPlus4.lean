/- What comes later: those that come till a time. -/
import Derived.Test.YtmomoboedoljfaaPlus3
import Derived.Test.YtmomoboedoljfaaDraw4
namespace Go.Proofs.Ytmomoboedoljfaa
open Go.ChangeShapes Go.WideShapes Go.ChangeAt Go.RowKit
set_option linter.unusedVariables false
set_option maxRecDepth 4000
theorem take_while_at {α : Type} (p : α → Bool) : ∀ (l : List α) (j : Nat), j ≤ l.length → (∀ i (h : i < l.length), i < j → p l[i] = true) → (∀ h : j < l.length, p l[j] = false) → l.takeWhile p = l.take j
  | [], j, hj, _, _ => by simp
  | x :: r, 0, _, _, h => by
    have := h (by simp)
    simp only [List.getElem_cons_zero] at this
    simp [this]
  | x :: r, j + 1, hj, h1, h2 => by
    have h0 := h1 0 (by simp) (by omega)
    simp only [List.getElem_cons_zero] at h0
    have ih := take_while_at p r j (by simpa using hj) (fun i hi hij => h1 (i + 1) (by simpa using hi) (by omega)) (fun hlt => h2 (by simpa using hlt))
    simp [h0, ih]
theorem ocCells_take (L : List OC) (j : Nat) (h : j < L.length) : ocCells (L.take (j + 1)) = ocCells (L.take j) ++ L[j].v := by
  rw [List.take_succ_eq_append_getElem h, ocCells_snoc]
def tillB (c : Int) (x : OC) : Bool := decide (x.o.tl ≤ c)
/-- Some of a list, in a row of their own. -/
def TillPost (w : World) (B : Nat) (M : List OC) (e : Ending) (w' : World) : Prop :=
  ∃ v, e = .returned v ∧ OccsOwn w' B v M ∧ Below w.heap.size w w'
set_option maxHeartbeats 2000000 in
theorem tillLate_any (P B : Nat) (av : Option Addr) (cv : Nat) (L : List OC) (c : Int) (w : World) (hP : w.heap[P]? = some (.cells #[.slice av L.length cv] 57 (0, 0))) (hO : OccsOwn w B (.slice av L.length cv) L) (hB : B ≤ w.heap.size) (hL : L.length ≤ 1000) :
    Calls Try.prog 35 #[.pointer (some ⟨P, 0, none⟩), .int .i64 c] w (TillPost w B (L.takeWhile (tillB c))) := by
  obtain ⟨i0, hi, hz0, hz1, hz2⟩ := info_occ_parts
  have hPl : P < w.heap.size := (Array.getElem?_eq_some_iff.1 hP).1
  have p0 := oCell hP 0
  simp at p0
  obtain ⟨n, hn⟩ : ∃ n, L.length = n := ⟨_, rfl⟩
  have Hn : Hid (L.length = n) := hn
  rw [hn] at p0 hL
  have hend : ∀ (a' : Option Addr) (c' j : Nat) (wr : World), j ≤ n → wr.ownsRow w.heap.size 32 3 (.slice a' j c') j (ocCells (L.take j)) → (∀ i (h : i < L.length), i < j → tillB c L[i] = true) → (∀ h : j < L.length, tillB c L[j] = false) → Below w.heap.size w wr → TillPost w B (L.takeWhile (tillB c)) (.returned (.slice a' j c')) wr := by
    intro a' c' j wr hj hrow h1 h2 hb
    have hlen : (L.take j).length = j := by rw [List.length_take, Hn.out]; omega
    rw [take_while_at (tillB c) L j (by rw [Hn.out]; exact hj) h1 h2]
    refine ⟨_, rfl, ⟨?_, fun x hx => (hO.one x (List.mem_of_mem_take hx)).below hb, fun x hx p hp => Nat.lt_of_lt_of_le (hO.lt x (List.mem_of_mem_take hx) p hp) hb.size, fun x hx p hp e => ?_, hO.apart.sublist (List.take_sublist j L)⟩, hb⟩
    · rw [hlen]
      exact hrow.mono hB
    · have h3 := (hrow.lt p.block e).1
      have h4 := hO.lt x (List.mem_of_mem_take hx) p hp
      omega
  have Hend : Hid _ := hend
  clear hend hn
  go_enter Try.func35, Try.ntmps35
  go_wp2_with fail
  go_loopw [5, 12] (fun vc vi wr => ∃ (j : Nat) (a' : Option Addr) (c' : Nat), j ≤ n ∧ vi = .int .i64 j ∧ vc = .slice a' j c' ∧ wr.ownsRow w.heap.size 32 3 (.slice a' j c') j (ocCells (L.take j)) ∧ Hid (∀ i (h : i < L.length), i < j → tillB c L[i] = true) ∧ Below w.heap.size w wr) (fun _ vi _ => n - (intOf vi).toNat)
  case atStart => exact ⟨0, none, 0, Nat.zero_le _, rfl, rfl, World.ownsRow_nil _ _ _ _, fun i _ h => absurd h (by omega), Below.refl _ _⟩
  case round =>
    obtain ⟨j, a', c', hj, rfl, rfl, hrow, hall, hbr⟩ := hrel
    by_cases hjn : j < n
    · have hjn' : (j : Int) < (n : Int) := by omega
      have hlj : j < L.length := by rw [Hn.out]; exact hjn
      obtain ⟨g, rfl⟩ : ∃ g, av = some ⟨g, 0, none⟩ := by
        rcases hO.row.2 with ⟨e, hn0⟩ | ⟨g, cap', cur, e, _⟩
        · omega
        · cases e; exact ⟨g, rfl⟩
      have hOr := hO.row
      obtain ⟨⟨y0, y1, y2⟩, _, _, hgl⟩ := row_facts hOr rfl hlj
      have x0 := (hbr.cell (p := ⟨g, j * 3, none⟩) hgl).trans y0
      have x1 := (hbr.cell (p := ⟨g, j * 3 + 1, none⟩) hgl).trans y1
      have x2 := (hbr.cell (p := ⟨g, j * 3 + 2, none⟩) hgl).trans y2
      have hcells := ocCells_take L j hlj
      have hone : tillB c L[j] = decide (L[j].o.tl ≤ c) := rfl
      obtain ⟨x, hx⟩ : ∃ x, L[j] = x := ⟨_, rfl⟩
      have Hx : Hid (L[j] = x) := hx
      rw [hx] at x0 x1 x2 hcells hone
      clear hx y0 y1 y2 hOr
      by_cases hle : x.o.tl ≤ c
      · have hbx := oBelow_new wr (.cells #[.int .i64 x.o.fr, .int .i64 x.o.tl, .slice x.a x.o.ids.length x.c] 32)
        have hb2 := below_two wr (.cells #[.int .i64 x.o.fr, .int .i64 x.o.tl, .slice x.a x.o.ids.length x.c] 32) (.cells #[.int .i64 x.o.fr, .int .i64 x.o.tl, .slice x.a x.o.ids.length x.c] 32)
        have hall' : Hid (∀ i (h : i < L.length), i < j + 1 → tillB c L[i] = true) := fun i h hij => by
          by_cases hij' : i = j
          · subst hij'
            show tillB c L[i] = true
            rw [Hx.out]
            exact decide_eq_true hle
          · exact hall.out i h (by omega)
        have hnew := new_occ (wr.alloc (.cells #[.int .i64 x.o.fr, .int .i64 x.o.tl, .slice x.a x.o.ids.length x.c] 32)) x 32
        rw [World.size_alloc] at hnew
        go_wp2_with (at_builtin; refine wpList_append_where rfl _ _ 23 rfl w.heap.size 32 i0 (.agg #[.int .i64 0, .int .i64 0, .slice none 0 0]) 3 40 Try.underlying23 hi hz0 hz1 hz2 rfl (by decide) (.slice a' j c') j (ocCells (L.take j)) rfl (pOwns_below hrow hb2) ⟨wr.heap.size + 1, 0, none⟩ 1 1 x.v rfl rfl hnew (ocv_one x) ?c3 ?c4 ?c5 ?_)
        case c3 => unfold maxLen; omega
        case c4 => omega
        case c5 => have := hbr.size; simp; omega
        intro v' w' r1 r2 r3
        obtain ⟨a6, c6, rfl⟩ := pOwns_slice r1
        have hb5 : Below w.heap.size w w' := (hbr.trans (hb2.mono hbr.size)).grown r2 (Nat.le_trans hbr.size hb2.size) (fun k hk => (hrow.lt k hk).1)
        rw [← hcells] at r1
        go_wp2
        exact ⟨⟨j + 1, a6, c6, by omega, by go_num, rfl, r1, hall', hb5⟩, by simp [intOf]; omega⟩
      · have hbx := oBelow_new wr (.cells #[.int .i64 x.o.fr, .int .i64 x.o.tl, .slice x.a x.o.ids.length x.c] 32)
        have hfin := Hend.out a' c' j _ hj (pOwns_below hrow hbx) hall.out (fun h => by rw [Hx.out]; exact decide_eq_false hle) (hbr.trans (hbx.mono hbr.size))
        have Hfin : Hid _ := hfin
        clear hfin
        go_wp2
        go_ret
        exact Hfin.out
    · have hneg : ¬ ((j : Int) < (n : Int)) := by omega
      have hfin := Hend.out a' c' j _ hj hrow hall.out (fun h => absurd h (by rw [Hn.out]; omega)) hbr
      have Hfin : Hid _ := hfin
      clear hfin
      go_wp2
      go_ret
      exact Hfin.out
end Go.Proofs.Ytmomoboedoljfaa
