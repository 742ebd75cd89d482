/- One more put into a list: the specification's and the program's. -/
import Derived.Test.YtmomoboedoljfaaOccPl
import Derived.Test.YtmomoboedoljfaaOccIns
namespace Go.Proofs.Ytmomoboedoljfaa
open Go.ChangeShapes Go.WideShapes Go.ChangeAt Go.RowKit
set_option linter.unusedVariables false
set_option maxRecDepth 4000

/-- A place whose numbers are new, put into a list of the call's own. -/
theorem own_insert {w w' : World} {B : Nat} {v v' : Value} {L : List OC} {K : Nat} {o : Occ} {a' : Option Addr} {c' : Nat} (hO : OccsOwn w B v L) (hB : B ≤ w.heap.size) (hKl : K ≤ L.length)
    (hrow : w'.ownsRow B 32 3 v' (L.length + 1) (ocCells (L.take K ++ ⟨o, a', c'⟩ :: L.drop K))) (hg : w.grownBy w' v.ownBlock) (hi : IntOwn w' w.heap.size a' o.ids)
    (hl : ∀ p, a' = some p → p.block < w'.heap.size ∧ v'.ownBlock ≠ some p.block) (hv : ∀ k, v'.ownBlock = some k → v.ownBlock = some k ∨ w.heap.size ≤ k) : OccsOwn w' B v' (L.take K ++ ⟨o, a', c'⟩ :: L.drop K) := by
  refine ⟨?_, ?_, ?_, ?_, ?_⟩
  · rw [show (L.take K ++ ⟨o, a', c'⟩ :: L.drop K).length = L.length + 1 by simp; omega]
    exact hrow
  · intro x hx
    rcases List.mem_append.1 hx with hx | hx
    · exact (hO.one x (List.mem_of_mem_take hx)).only hg (hO.off x (List.mem_of_mem_take hx))
    · rcases List.mem_cons.1 hx with rfl | hx
      · refine ⟨hi.len, fun y hy => Nat.le_trans hB (hi.ge y hy), fun hpos => ?_⟩
        obtain ⟨b, e, q1, q2⟩ := hi.row hpos
        exact ⟨b, e, Nat.le_trans hB q1, q2⟩
      · exact (hO.one x (List.mem_of_mem_drop hx)).only hg (hO.off x (List.mem_of_mem_drop hx))
  · intro x hx p hp
    rcases List.mem_append.1 hx with hx | hx
    · exact Nat.lt_of_lt_of_le (hO.lt x (List.mem_of_mem_take hx) p hp) hg.size
    · rcases List.mem_cons.1 hx with rfl | hx
      · exact (hl p hp).1
      · exact Nat.lt_of_lt_of_le (hO.lt x (List.mem_of_mem_drop hx) p hp) hg.size
  · have old : ∀ x ∈ L, ∀ p, x.a = some p → v'.ownBlock ≠ some p.block := by
      intro x hx p hp e
      rcases hv _ e with h1 | h1
      · exact hO.off x hx p hp h1
      · have := hO.lt x hx p hp; omega
    intro x hx p hp
    rcases List.mem_append.1 hx with hx | hx
    · exact old x (List.mem_of_mem_take hx) p hp
    · rcases List.mem_cons.1 hx with rfl | hx
      · exact (hl p hp).2
      · exact old x (List.mem_of_mem_drop hx) p hp
  · have hap := hO.apart
    rw [← List.take_append_drop K L] at hap
    obtain ⟨p1, p2, p3⟩ := List.pairwise_append.1 hap
    have far : ∀ x ∈ L, ∀ p q, x.a = some p → a' = some q → p.block ≠ q.block := by
      intro x hx p q hp hq
      have h1 := hO.lt x hx p hp
      have h2 := hi.ge q hq
      omega
    refine List.pairwise_append.2 ⟨p1, List.pairwise_cons.2 ⟨fun y hy p q hp hq => (far y (List.mem_of_mem_drop hy) q p hq hp).symm, p2⟩, ?_⟩
    intro x hx y hy
    rcases List.mem_cons.1 hy with rfl | hy
    · exact fun p q hp hq => far x (List.mem_of_mem_take hx) p q hp hq
    · exact p3 x hx y hy

def putsF (l : List Occ) (o : Occ) : List Occ := if occsOkB l && occOkB o.fr o.tl o.ids then putF o l else []

set_option maxHeartbeats 1000000 in
theorem implOccsPut_any (a : Option Addr) (cap : Nat) (l : List Occ) (o : Occ) (p : Option Addr) (cp : Nat) (w : World) (h : Occs w a l) (ho : Ints w p o.ids) :
    Calls Try.prog 9 #[.slice a l.length cap, .agg #[.int .i64 o.fr, .int .i64 o.tl, .slice p o.ids.length cp]] w (CopyL w (putsF l o)) := by
  obtain ⟨w0, hw0⟩ : ∃ w0, w.alloc (.cells #[.int .i64 o.fr, .int .i64 o.tl, .slice p o.ids.length cp] 32) = w0 := ⟨_, rfl⟩
  have hX0 := box3_new w (.int .i64 o.fr) (.int .i64 o.tl) (.slice p o.ids.length cp) 32
  have hb0 := oBelow_new w (.cells #[.int .i64 o.fr, .int .i64 o.tl, .slice p o.ids.length cp] 32)
  rw [hw0] at hX0 hb0
  obtain ⟨x0, x1, x2⟩ := hX0.cells
  cases h1 : occsOkB l
  · have e : putsF l o = [] := by simp [putsF, h1]
    rw [e]
    go_enter Try.func9, Try.ntmps9
    go_wp2_with fail
    refine (implOccsOk_any _ _ l _ (h.below hb0)).mono ?_
    rintro e w1 ⟨rfl, hb1⟩
    rw [h1]
    have b1 := hb0.trans (hb1.mono hb0.size)
    go_wp2
    go_ret
    exact ⟨_, [], rfl, rfl, OccsOwn.nil _ _, b1⟩
  · cases h2 : occOkB o.fr o.tl o.ids
    · have e : putsF l o = [] := by simp [putsF, h2]
      rw [e]
      go_enter Try.func9, Try.ntmps9
      go_wp2_with fail
      refine (implOccsOk_any _ _ l _ (h.below hb0)).mono ?_
      rintro e w1 ⟨rfl, hb1⟩
      rw [h1]
      have b1 := hb0.trans (hb1.mono hb0.size)
      clear x0 x1 x2
      obtain ⟨x0, x1, x2⟩ := (hX0.below hb1).cells
      go_wp2_with fail
      refine (implOccOk_any o.fr o.tl p cp o.ids _ (ho.below b1)).mono ?_
      rintro e w2 ⟨rfl, hb2⟩
      rw [h2]
      have b2 := b1.trans (hb2.mono b1.size)
      have hX2 := (hX0.below hb1).below hb2
      clear x0 x1 x2
      go_wp2
      go_ret
      exact ⟨_, [], rfl, rfl, OccsOwn.nil _ _, b2⟩
    · have e : putsF l o = putF o l := by simp [putsF, h1, h2]
      rw [e]
      have hokl : ∀ o ∈ l, o.Ok := ok_each h1
      have hoko : o.Ok := h2
      have hsz := oks_size hokl
      have hl40 := ok_len h1
      have hse : occsSize l ≤ 1048576 := by unfold occsSize; omega
      obtain ⟨g1, g2, g3, g4⟩ := hoko.good
      have hpl := placeF_le o l
      obtain ⟨K, hKK⟩ : ∃ K, placeF o l = K := ⟨_, rfl⟩
      cases hsm : sameAt o l
      · have hput : Hid (putF o l = l.take K ++ o :: l.drop K) := by show _ = _; unfold putF; rw [hsm, hKK]; simp
        go_enter Try.func9, Try.ntmps9
        go_wp2_with fail
        refine (implOccsOk_any _ _ l _ (h.below hb0)).mono ?_
        rintro e w1 ⟨rfl, hb1⟩
        rw [h1]
        have b1 := hb0.trans (hb1.mono hb0.size)
        clear x0 x1 x2
        obtain ⟨x0, x1, x2⟩ := (hX0.below hb1).cells
        go_wp2_with fail
        refine (implOccOk_any o.fr o.tl p cp o.ids _ (ho.below b1)).mono ?_
        rintro e w2 ⟨rfl, hb2⟩
        rw [h2]
        have b2 := b1.trans (hb2.mono b1.size)
        have hX2 := (hX0.below hb1).below hb2
        clear x0 x1 x2
        obtain ⟨x0, x1, x2⟩ := hX2.cells
        go_wp2_with fail
        refine (occPlace_any _ _ l o p cp _ (h.below b2) (ho.below b2) (asc_ok h1) (by omega)).mono ?_
        rintro e w3 ⟨rfl, hb3⟩
        have b3 := b2.trans (hb3.mono b2.size)
        have hX3 := hX2.below hb3
        clear x0 x1 x2
        go_wp2_with fail
        refine (occsCopy_any _ _ l _ (h.below b3) hse (fun o ho => (hokl o ho).good.1)).mono ?_
        rintro e w4 ⟨v4, L4, rfl, hL4, hO4, hb4⟩
        have b4 := b3.trans (hb4.mono b3.size)
        have hX4 := hX3.below hb4
        obtain ⟨av, cv, rfl⟩ := pOwns_slice hO4.row
        have Hn4 : Hid (L4.length = l.length) := by show _ = _; have := congrArg List.length hL4; simpa using this
        rw [hKK] at hpl
        have hKL : K ≤ L4.length := by rw [Hn4.out]; exact hpl
        have hL4n : L4.length ≤ 40 := by rw [Hn4.out]; exact hl40
        obtain ⟨x0, x1, x2⟩ := hX4.cells
        go_wp2_with fail
        refine (occCopy_any o p cp _ (ho.below b4) g1 (by omega)).mono ?_
        rintro e w5 ⟨a5, c5, rfl, hi5, hl5, hb5⟩
        have b5 := b4.trans (hb5.mono b4.size)
        clear x0 x1 x2
        have hal := oBelow_new w5 (.cells #[.int .i64 o.fr, .int .i64 o.tl, .slice a5 o.ids.length c5] 32)
        have hrow6 := pOwns_below (pOwns_below hO4.row hb5) hal
        have hvb : (w5.alloc (.cells #[.int .i64 o.fr, .int .i64 o.tl, .slice a5 o.ids.length c5] 32)).heap[w5.heap.size]? = some (.cells #[.int .i64 o.fr, .int .i64 o.tl, .slice a5 o.ids.length c5] 32 (0, 0)) := heap_alloc_new w5 _
        have b6 : Below w.heap.size w (w5.alloc (.cells #[.int .i64 o.fr, .int .i64 o.tl, .slice a5 o.ids.length c5] 32)) := b5.trans (hal.mono b5.size)
        have b46 : Below w4.heap.size w4 (w5.alloc (.cells #[.int .i64 o.fr, .int .i64 o.tl, .slice a5 o.ids.length c5] 32)) := hb5.trans (hal.mono hb5.size)
        have hi6 := hi5.below hal
        have hl6 : ∀ q, a5 = some q → q.block < (w5.alloc (.cells #[.int .i64 o.fr, .int .i64 o.tl, .slice a5 o.ids.length c5] 32)).heap.size := fun q hq => Nat.lt_of_lt_of_le (hl5 q hq) hal.size
        have hs6 : w5.heap.size < (w5.alloc (.cells #[.int .i64 o.fr, .int .i64 o.tl, .slice a5 o.ids.length c5] 32)).heap.size := by simp
        obtain ⟨w6, hw6⟩ : ∃ w6, w5.alloc (.cells #[.int .i64 o.fr, .int .i64 o.tl, .slice a5 o.ids.length c5] 32) = w6 := ⟨_, rfl⟩
        rw [hw6] at hrow6 hvb b6 b46 hi6 hl6 hs6
        have hlt4 : ∀ k, Value.ownBlock (.slice av L4.length cv) = some k → k < w4.heap.size := fun k hk => (hO4.row.lt k hk).2
        have s5 := hb5.size
        go_wp2_with fail
        refine (insert_any w3.heap.size av cv L4 K ⟨o, a5, c5⟩ w5.heap.size _ hrow6 hKL (by omega) (by have := hb4.size; have := b46.size; omega) hvb (fun q hq e => by subst hq; have := hlt4 q.block rfl; omega)).mono ?_
        rintro e w7 ⟨v7, rfl, r1, r2, r3⟩
        go_wp2
        go_ret
        have hg47 : w4.grownBy w7 (Value.slice av L4.length cv).ownBlock := ⟨r2.os.trans b46.os, r2.tape.trans b46.tape, r2.output.trans b46.output, Nat.le_trans b46.size r2.size, fun k hk hne => (r2.block k (Nat.lt_of_lt_of_le hk b46.size) hne).trans (b46.block k hk)⟩
        have hi7 := hi6.only r2 (fun q hq e => by have h1 := hlt4 _ e; have h2 := hi6.ge q hq; omega)
        have hfin := own_insert (o := o) (a' := a5) (c' := c5) hO4 hb4.size hKL r1 hg47 hi7 (fun q hq => ⟨Nat.lt_of_lt_of_le (hl6 q hq) r2.size, fun e => by
          have h2 := hi6.ge q hq
          have h3 := hl5 q hq
          rcases r3 _ e with h1 | h1
          · have := hlt4 _ h1; omega
          · omega⟩) (fun k hk => by
          rcases r3 k hk with h1 | h1
          · exact .inl h1
          · exact .inr (by omega))
        refine ⟨_, _, rfl, ?_, hfin.low b3.size, b6.grown r2 b6.size (fun k hk => Nat.le_trans b3.size (hO4.row.lt k hk).1)⟩
        rw [hput.out, List.map_append, List.map_cons, List.map_take, List.map_drop, hL4]
      · have hput : Hid (putF o l = l) := by show _ = _; unfold putF; rw [hsm]; simp
        go_enter Try.func9, Try.ntmps9
        go_wp2_with fail
        refine (implOccsOk_any _ _ l _ (h.below hb0)).mono ?_
        rintro e w1 ⟨rfl, hb1⟩
        rw [h1]
        have b1 := hb0.trans (hb1.mono hb0.size)
        clear x0 x1 x2
        obtain ⟨x0, x1, x2⟩ := (hX0.below hb1).cells
        go_wp2_with fail
        refine (implOccOk_any o.fr o.tl p cp o.ids _ (ho.below b1)).mono ?_
        rintro e w2 ⟨rfl, hb2⟩
        rw [h2]
        have b2 := b1.trans (hb2.mono b1.size)
        have hX2 := (hX0.below hb1).below hb2
        clear x0 x1 x2
        obtain ⟨x0, x1, x2⟩ := hX2.cells
        go_wp2_with fail
        refine (occPlace_any _ _ l o p cp _ (h.below b2) (ho.below b2) (asc_ok h1) (by omega)).mono ?_
        rintro e w3 ⟨rfl, hb3⟩
        have b3 := b2.trans (hb3.mono b2.size)
        have hX3 := hX2.below hb3
        clear x0 x1 x2
        go_wp2_with fail
        refine (occsCopy_any _ _ l _ (h.below b3) hse (fun o ho => (hokl o ho).good.1)).mono ?_
        rintro e w4 ⟨v4, L4, rfl, hL4, hO4, hb4⟩
        have b4 := b3.trans (hb4.mono b3.size)
        have hX4 := hX3.below hb4
        go_wp2
        go_ret
        exact ⟨_, L4, rfl, by rw [hL4, hput.out], hO4.low b3.size, b4⟩
end Go.Proofs.Ytmomoboedoljfaa
