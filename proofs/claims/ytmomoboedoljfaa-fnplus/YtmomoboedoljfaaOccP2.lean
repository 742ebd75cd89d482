/- Lists of places in rows of their own: copies of a list. -/
import Derived.Test.YtmomoboedoljfaaOccP1
namespace Go.Proofs.Ytmomoboedoljfaa
open Go.ChangeShapes Go.WideShapes Go.ChangeAt Go.RowKit
set_option linter.unusedVariables false
set_option maxRecDepth 4000

/-- What the copy of a list hands back. -/
def CopyL (w : World) (l : List Occ) (e : Ending) (w' : World) : Prop :=
  ∃ v L, e = .returned v ∧ L.map (·.o) = l ∧ OccsOwn w' w.heap.size v L ∧ Below w.heap.size w w'
theorem info_occ_parts : ∃ i, Try.prog.info? 32 = some i ∧ i.zero = some (.agg #[.int .i64 0, .int .i64 0, .slice none 0 0]) ∧ i.size = 3 ∧ i.bytes = 40 := by
  have hi := info_occ
  cases h : Try.prog.info? 32 with
  | none => rw [h] at hi; simp at hi
  | some i => rw [h] at hi; simp at hi; exact ⟨i, rfl, hi⟩
theorem new_occ (w : World) (x : OC) (t : TypeId) : ∀ j u, x.v[j]? = some u → (w.alloc (.cells #[.int .i64 x.o.fr, .int .i64 x.o.tl, .slice x.a x.o.ids.length x.c] t)).cell? ((⟨w.heap.size, 0, none⟩ : Addr).add j) = some u := by
  intro j u hj
  match j, hj with
  | 0, hj => simp [OC.v] at hj; subst hj; simp [Addr.add]
  | 1, hj => simp [OC.v] at hj; subst hj; simp [Addr.add]
  | 2, hj => simp [OC.v] at hj; subst hj; simp [Addr.add]
theorem ocv_one (x : OC) : ∀ u ∈ x.v, u.oneCell' = true := by
  intro u hu
  simp [OC.v] at hu
  rcases hu with rfl | rfl | rfl <;> rfl
theorem OccsOwn.nil (w : World) (B : Nat) : OccsOwn w B (.slice none 0 0) [] := ⟨World.ownsRow_nil _ _ _ _, by simp, by simp, by simp, List.Pairwise.nil⟩
theorem OccsOwn.made (w : World) : OccsOwn (w.alloc (.cells #[] 32)) w.heap.size (.slice (some ⟨w.heap.size, 0, none⟩) 0 0) [] :=
  ⟨World.ownsRow_made _ _ _ (Nat.le_refl _) (by simp [maxLen]) rfl, by simp, by simp, by simp, List.Pairwise.nil⟩
/-- A copy that was made behind w1 is put behind the others. -/
theorem OccsOwn.put {w1 w2 w' : World} {B : Nat} {v v' : Value} {L : List OC} {o : Occ} {a : Option Addr} {c : Nat} (h : OccsOwn w1 B v L) (hB : B ≤ w1.heap.size) (hi : IntOwn w2 w1.heap.size a o.ids) (hl : ∀ p, a = some p → p.block < w2.heap.size) (hb : Below w1.heap.size w1 w2) (T : TypeId)
    (r1 : w'.ownsRow B 32 3 v' (L.length + 1) (ocCells L ++ OC.v ⟨o, a, c⟩)) (r2 : (w2.alloc (.cells #[.int .i64 o.fr, .int .i64 o.tl, .slice a o.ids.length c] T)).grownBy w' v.ownBlock)
    (r3 : ∀ k, v'.ownBlock = some k → v.ownBlock = some k ∨ (w2.alloc (.cells #[.int .i64 o.fr, .int .i64 o.tl, .slice a o.ids.length c] T)).heap.size ≤ k) : OccsOwn w' B v' (L ++ [⟨o, a, c⟩]) := by
  have hal := oBelow_new w2 (.cells #[.int .i64 o.fr, .int .i64 o.tl, .slice a o.ids.length c] T)
  refine ((h.below hb).below hal).snoc (x := ⟨o, a, c⟩) ?_ (fun p hp => ?_) (fun p hp e => ?_) (fun y hy p q hp hq => ?_) r1 r2 r3
  · have h1 := hi.below hal
    refine ⟨h1.len, fun x hx => Nat.le_trans hB (h1.ge x hx), fun hpos => ?_⟩
    obtain ⟨b, e, g1, g2⟩ := h1.row hpos
    exact ⟨b, e, Nat.le_trans hB g1, g2⟩
  · exact Nat.lt_of_lt_of_le (hl p hp) hal.size
  · have h1 := (h.row.lt _ e).2
    have h2 := hi.ge p hp
    omega
  · have h1 := h.lt y hy p hp
    have h2 := hi.ge q hq
    omega

set_option maxHeartbeats 1000000 in
theorem l3List_any (a : Option Addr) (cap : Nat) (l : List Occ) (w : World) (h : Occs w a l) (hn : occsSize l ≤ 1048576) (hp : ∀ o ∈ l, 0 < o.ids.length) :
    Calls Try.prog 21 #[.slice a l.length cap] w (CopyL w l) := by
  obtain ⟨i0, hi, hz0, hz1, hz2⟩ := info_occ_parts
  have hse : occsSize l = l.length + idsTotal l := rfl
  have hln : l.length ≤ 1048576 := by omega
  go_enter Try.func21, Try.ntmps21
  go_wp2
  go_loopw [3, 4] (fun v i wr => ∃ k : Nat, ∃ L : List OC, k ≤ l.length ∧ i = .int .i64 k ∧ Hid (L.map (·.o) = l.take k) ∧ OccsOwn wr w.heap.size v L ∧ Below w.heap.size w wr) (fun _ i _ => l.length - (intOf i).toNat)
  case atStart => exact ⟨0, [], Nat.zero_le _, rfl, rfl, OccsOwn.made w, (Below.refl _ _).alloc (Nat.le_refl _) _⟩
  case round =>
    obtain ⟨k, L, hk, rfl, hL, hO, hb⟩ := hrel
    have hLk : L.length = k := by have := congrArg List.length hL.out; simp at this; omega
    by_cases hlt : k < l.length
    · obtain ⟨b, off, q, cq, rfl, hbl, c0, c1, c2, hids⟩ := (h.below hb).at hlt
      have hil : l[k].ids.length ≤ 1048576 := by have := idsTotal_get hlt; omega
      have hip := hp l[k] (List.getElem_mem hlt)
      have htk : Hid (l.take (k + 1) = l.take k ++ [l[k]]) := List.take_succ_eq_append_getElem hlt
      generalize l[k] = o at c0 c1 c2 hids hil hip htk
      have HLk : Hid (L.length = k) := hLk
      clear hLk hse
      go_wp2_with fail
      refine (l3Copy_any o q cq _ hids hip hil).mono ?_
      rintro e w1 ⟨a1, c1', rfl, hi1, hl1, hb1⟩
      have hO1 := hO
      have hb01 := hb.trans (hb1.mono hb.size)
      have hal := oBelow_new w1 (.cells #[.int .i64 o.fr, .int .i64 o.tl, .slice a1 o.ids.length c1'] 32)
      have hLk := HLk.out
      obtain ⟨av, cv, rfl⟩ := pOwns_slice hO1.row
      obtain ⟨v', w', hrun, r1, r2, r3⟩ := oAppend_where (P := Try.prog) (w1.alloc (.cells #[.int .i64 o.fr, .int .i64 o.tl, .slice a1 o.ids.length c1'] 32)) w.heap.size 23 23 32 i0 (.agg #[.int .i64 0, .int .i64 0, .slice none 0 0]) 3 40 Try.underlying23 hi hz0 hz1 hz2 rfl (by decide) (.slice av L.length cv) L.length (ocCells L) (pOwns_below (pOwns_below hO1.row hb1) hal) ⟨w1.heap.size, 0, none⟩ 1 1 (OC.v ⟨o, a1, c1'⟩) rfl (new_occ w1 ⟨o, a1, c1'⟩ _) (ocv_one _) (by unfold maxLen; omega) (by omega) (by have := hb01.size; simp; omega)
      have hnx := hO1.put (o := o) (a := a1) (c := c1') hb.size hi1 hl1 hb1 32 r1 r2 r3
      have hbe : Below w.heap.size w w' := (hb01.alloc hb01.size _).grown r2 (by have := hb01.size; simp; omega) (fun x hx => (hO1.row.lt x hx).1)
      simp [go_sem] at hrun
      clear hLk r1 r2 r3
      go_wp2
      refine ⟨⟨k + 1, L ++ [⟨o, a1, c1'⟩], by omega, by go_num, ?_, hnx, hbe⟩, by simp [intOf]; omega⟩
      show _ = _
      rw [htk.out, ← hL.out]
      simp
    · go_wp2
      go_ret
      refine ⟨_, L, rfl, ?_, hO, hb⟩
      rw [hL.out, List.take_of_length_le (by omega)]

set_option maxHeartbeats 1000000 in
theorem occsCopy_any (a : Option Addr) (cap : Nat) (l : List Occ) (w : World) (h : Occs w a l) (hn : occsSize l ≤ 1048576) (hp : ∀ o ∈ l, 0 < o.ids.length) :
    Calls Try.prog 17 #[.slice a l.length cap] w (CopyL w l) := by
  obtain ⟨i0, hi, hz0, hz1, hz2⟩ := info_occ_parts
  have hse : occsSize l = l.length + idsTotal l := rfl
  have hln : l.length ≤ 1048576 := by omega
  go_enter Try.func17, Try.ntmps17
  go_wp2
  go_loopw [3, 5, 8] (fun v _ i wr => ∃ k : Nat, ∃ L : List OC, k ≤ l.length ∧ i = .int .i64 k ∧ Hid (L.map (·.o) = l.take k) ∧ OccsOwn wr w.heap.size v L ∧ Below w.heap.size w wr) (fun _ _ i _ => l.length - (intOf i).toNat)
  case atStart => exact ⟨0, [], Nat.zero_le _, rfl, rfl, OccsOwn.nil w _, Below.refl _ _⟩
  case round =>
    obtain ⟨k, L, hk, rfl, hL, hO, hb⟩ := hrel
    have hLk : L.length = k := by have := congrArg List.length hL.out; simp at this; omega
    by_cases hlt : k < l.length
    · obtain ⟨b, off, q, cq, rfl, hbl, c0, c1, c2, hids⟩ := (h.below hb).at hlt
      have hil : l[k].ids.length ≤ 1048576 := by have := idsTotal_get hlt; omega
      have hip := hp l[k] (List.getElem_mem hlt)
      have htk : Hid (l.take (k + 1) = l.take k ++ [l[k]]) := List.take_succ_eq_append_getElem hlt
      generalize l[k] = o at c0 c1 c2 hids hil hip htk
      have HLk : Hid (L.length = k) := hLk
      clear hLk hse
      obtain ⟨w5, hw5⟩ : ∃ w5, wr.alloc (.cells #[.int .i64 o.fr, .int .i64 o.tl, .slice q o.ids.length cq] 32) = w5 := ⟨_, rfl⟩
      have hX5 := box3_new wr (.int .i64 o.fr) (.int .i64 o.tl) (.slice q o.ids.length cq) 32
      have hb5 := oBelow_new wr (.cells #[.int .i64 o.fr, .int .i64 o.tl, .slice q o.ids.length cq] 32)
      rw [hw5] at hX5 hb5
      have hb05 := hb.trans (hb5.mono hb.size)
      obtain ⟨x0, x1, x2⟩ := hX5.cells
      go_wp2_with fail
      refine (occCopy_any o q cq _ (hids.below hb5) hip hil).mono ?_
      rintro e w1 ⟨a1, c1', rfl, hi1, hl1, hb1⟩
      have hO1 := (hO.below hb5)
      have hb01 := hb05.trans (hb1.mono hb05.size)
      have hal := oBelow_new w1 (.cells #[.int .i64 o.fr, .int .i64 o.tl, .slice a1 o.ids.length c1'] 32)
      have hLk := HLk.out
      obtain ⟨av, cv, rfl⟩ := pOwns_slice hO1.row
      obtain ⟨v', w', hrun, r1, r2, r3⟩ := oAppend_where (P := Try.prog) (w1.alloc (.cells #[.int .i64 o.fr, .int .i64 o.tl, .slice a1 o.ids.length c1'] 32)) w.heap.size 23 23 32 i0 (.agg #[.int .i64 0, .int .i64 0, .slice none 0 0]) 3 40 Try.underlying23 hi hz0 hz1 hz2 rfl (by decide) (.slice av L.length cv) L.length (ocCells L) (pOwns_below (pOwns_below hO1.row hb1) hal) ⟨w1.heap.size, 0, none⟩ 1 1 (OC.v ⟨o, a1, c1'⟩) rfl (new_occ w1 ⟨o, a1, c1'⟩ _) (ocv_one _) (by unfold maxLen; omega) (by omega) (by have := hb01.size; simp; omega)
      have hnx := hO1.put (o := o) (a := a1) (c := c1') hb05.size hi1 hl1 hb1 32 r1 r2 r3
      have hbe : Below w.heap.size w w' := (hb01.alloc hb01.size _).grown r2 (by have := hb01.size; simp; omega) (fun x hx => (hO1.row.lt x hx).1)
      simp [go_sem] at hrun
      clear hLk r1 r2 r3
      go_wp2
      refine ⟨⟨k + 1, L ++ [⟨o, a1, c1'⟩], by omega, by go_num, ?_, hnx, hbe⟩, by simp [intOf]; omega⟩
      show _ = _
      rw [htk.out, ← hL.out]
      simp
    · go_wp2
      go_ret
      refine ⟨_, L, rfl, ?_, hO, hb⟩
      rw [hL.out, List.take_of_length_le (by omega)]
end Go.Proofs.Ytmomoboedoljfaa
