/- One of the two: the specification's. -/
import Derived.Test.YtmomoboedoljfaaOccP4
import Derived.Test.YtmomoboedoljfaaOccOrd
namespace Go.Proofs.Ytmomoboedoljfaa
open Go.ChangeShapes Go.WideShapes Go.ChangeAt Go.RowKit
set_option linter.unusedVariables false
set_option maxRecDepth 4000

def Occ.Ok (o : Occ) : Prop := occOkB o.fr o.tl o.ids = true
theorem idsFrom_len24 : ∀ (l : List Int) (last : Int), idsFrom last l = true → -1 ≤ last → last < 24 → (l.length : Int) ≤ 23 - last
  | [], last, _, _, h => by simp; omega
  | i :: r, last, h, h0, h1 => by
    simp [idsFrom] at h
    have := idsFrom_len24 r i h.2 (by omega) (by omega)
    simp
    omega
theorem Occ.Ok.good {o : Occ} (h : o.Ok) : 0 < o.ids.length ∧ o.ids.length ≤ 24 ∧ Small o.ids ∧ ∀ i ∈ o.ids, I64 i := by
  have h' : occOkB o.fr o.tl o.ids = true := h
  have hs := occOkB_small h'
  simp only [occOkB, Bool.and_eq_true, decide_eq_true_eq] at h'
  have hl := idsFrom_len24 o.ids (-1) h'.2 (by omega) (by omega)
  refine ⟨h'.1.2.2.2, by omega, hs, fun i hi => ?_⟩
  have := hs i hi
  exact ⟨by omega, by omega⟩
theorem oks_size {l : List Occ} (h : ∀ o ∈ l, o.Ok) : idsTotal l ≤ 24 * l.length := by
  induction l with
  | nil => simp [idsTotal]
  | cons o r ih =>
    have h1 := ih (fun x hx => h x (by simp [hx]))
    have h2 := (h o (by simp)).good.2.1
    simp [idsTotal]
    omega

/-- One more put into a list of the call's own. -/
theorem l3Put_own (B : Nat) (v : Value) (L : List OC) (o : Occ) (a : Option Addr) (cap : Nat) (w : World) (hO : OccsOwn w B v L) (hB : B ≤ w.heap.size) (h : Ints w a o.ids) (hok : o.Ok) (hoks : ∀ x ∈ L, x.o.Ok) (hLn : L.length ≤ 100000) :
    Calls Try.prog 36 #[v, .agg #[.int .i64 o.fr, .int .i64 o.tl, .slice a o.ids.length cap]] w
      fun e w' => ∃ v' L', e = .returned v' ∧ L'.map (·.o) = putF o (L.map (·.o)) ∧ OccsOwn w' B v' L' ∧ Below B w w' := by
  obtain ⟨g1, g2, g3, g4⟩ := hok.good
  refine (l3Put_any B v L o a cap w hO.row (fun x hx => (hO.one x hx).ints) hB h g1 (by omega) hLn (fun x hx => (hoks x hx).good.2.2.1) g3 (fun x hx => (hoks x hx).good.2.2.2) g4).mono ?_
  rintro e w' ⟨v', rfl, ⟨hs, rfl, hb⟩ | ⟨hs, a', c', hrow, hg, hi, hl, hv⟩⟩
  · exact ⟨v', L, rfl, by unfold putF; rw [if_pos hs], hO.below hb, hb.mono hB⟩
  · have hbe : Below B w w' := (Below.refl B w).grown hg hB (fun k hk => (hO.row.lt k hk).1)
    obtain ⟨K, hK⟩ : ∃ K, placeF o (L.map (·.o)) = K := ⟨_, rfl⟩
    have hKl : K ≤ L.length := by have := placeF_le o (L.map (·.o)); simp at this; omega
    rw [hK] at hrow
    refine ⟨v', L.take K ++ ⟨o, a', c'⟩ :: L.drop K, rfl, ?_, ⟨?_, ?_, ?_, ?_, ?_⟩, hbe⟩
    · unfold putF; rw [if_neg (by rw [hs]; simp), hK]; simp
    · rw [show (L.take K ++ ⟨o, a', c'⟩ :: L.drop K).length = L.length + 1 by simp; omega]
      exact hrow
    · intro x hx
      rcases List.mem_append.1 hx with hx | hx
      · exact (hO.one x (List.mem_of_mem_take hx)).only hg (hO.off x (List.mem_of_mem_take hx))
      · rcases List.mem_cons.1 hx with rfl | hx
        · refine ⟨hi.len, fun y hy => Nat.le_trans hB (hi.ge y hy), fun hpos => ?_⟩
          obtain ⟨b, e, q1, q2⟩ := hi.row hpos
          exact ⟨b, e, Nat.le_trans hB q1, q2⟩
        · exact (hO.one x (List.mem_of_mem_drop hx)).only hg (hO.off x (List.mem_of_mem_drop hx))
    · intro x hx p hp
      rcases List.mem_append.1 hx with hx | hx
      · exact Nat.lt_of_lt_of_le (hO.lt x (List.mem_of_mem_take hx) p hp) hg.size
      · rcases List.mem_cons.1 hx with rfl | hx
        · exact (hl p hp).1
        · exact Nat.lt_of_lt_of_le (hO.lt x (List.mem_of_mem_drop hx) p hp) hg.size
    · have old : ∀ x ∈ L, ∀ p, x.a = some p → v'.ownBlock ≠ some p.block := by
        intro x hx p hp e
        rcases hv _ e with h1 | h1
        · exact hO.off x hx p hp h1
        · have := hO.lt x hx p hp; omega
      intro x hx p hp
      rcases List.mem_append.1 hx with hx | hx
      · exact old x (List.mem_of_mem_take hx) p hp
      · rcases List.mem_cons.1 hx with rfl | hx
        · exact (hl p hp).2
        · exact old x (List.mem_of_mem_drop hx) p hp
    · have hap := hO.apart
      rw [← List.take_append_drop K L] at hap
      obtain ⟨p1, p2, p3⟩ := List.pairwise_append.1 hap
      have far : ∀ x ∈ L, ∀ p q, x.a = some p → a' = some q → p.block ≠ q.block := by
        intro x hx p q hp hq
        have h1 := hO.lt x hx p hp
        have h2 := hi.ge q hq
        omega
      refine List.pairwise_append.2 ⟨p1, List.pairwise_cons.2 ⟨fun y hy p q hp hq => (far y (List.mem_of_mem_drop hy) q p hq hp).symm, p2⟩, ?_⟩
      intro x hx y hy
      rcases List.mem_cons.1 hy with rfl | hy
      · exact fun p q hp hq => far x (List.mem_of_mem_take hx) p q hp hq
      · exact p3 x hx y hy

theorem oks_of_map {L : List OC} {l : List Occ} (e : L.map (·.o) = l) (h : ∀ o ∈ l, o.Ok) : ∀ x ∈ L, x.o.Ok := by
  intro x hx
  exact h _ (by rw [← e]; exact List.mem_map_of_mem hx)

set_option maxHeartbeats 1000000 in
theorem l4Merge_any (B : Nat) (v : Value) (L : List OC) (ab : Option Addr) (cb : Nat) (m : List Occ) (w : World) (hO : OccsOwn w B v L) (hB : B ≤ w.heap.size) (hm : ∀ u, Below B w u → Occs u ab m) (hoks : ∀ x ∈ L, x.o.Ok) (hokm : ∀ o ∈ m, o.Ok) (hLn : L.length + m.length ≤ 100000) :
    Calls Try.prog 20 #[v, .slice ab m.length cb] w
      fun e w' => ∃ v' L', e = .returned v' ∧ L'.map (·.o) = putAll (L.map (·.o)) m ∧ OccsOwn w' B v' L' ∧ Below B w w' := by
  obtain ⟨l, hl⟩ : ∃ l, L.map (·.o) = l := ⟨_, rfl⟩
  have hLl : L.length = l.length := by rw [← hl]; simp
  have hokl : ∀ o ∈ l, o.Ok := by
    intro o ho
    rw [← hl, List.mem_map] at ho
    obtain ⟨x, hx, rfl⟩ := ho
    exact hoks x hx
  rw [hl]
  go_enter Try.func20, Try.ntmps20
  go_wp2
  go_loopw [0, 5] (fun c i wr => ∃ j : Nat, ∃ L1 : List OC, j ≤ m.length ∧ i = .int .i64 j ∧ Hid (L1.map (·.o) = putAll l (m.take j)) ∧ OccsOwn wr B c L1 ∧ Below B w wr) (fun _ i _ => m.length - (intOf i).toNat)
  case atStart => exact ⟨0, L, Nat.zero_le _, rfl, by show _ = _; rw [hl]; rfl, hO, Below.refl _ _⟩
  case round =>
    obtain ⟨j, L1, hj, rfl, hL1, hO1, hb⟩ := hrel
    by_cases hlt : j < m.length
    · obtain ⟨b, off, q, cq, rfl, hbl, c0, c1, c2, hids⟩ := (hm wr hb).at hlt
      have hokj := hokm m[j] (List.getElem_mem hlt)
      have htk : Hid (m.take (j + 1) = m.take j ++ [m[j]]) := List.take_succ_eq_append_getElem hlt
      have hoks1 : ∀ x ∈ L1, x.o.Ok := oks_of_map hL1.out (fun o ho => by
        rcases (mem_putAll _ _ _).1 ho with h1 | h1
        · exact hokl o h1
        · exact hokm o (List.mem_of_mem_take h1))
      have hlen1 : L1.length ≤ 100000 := by
        have h1 := congrArg List.length hL1.out
        have h2 := putAll_len (m.take j) l
        simp at h1 h2
        omega
      generalize m[j] = o at c0 c1 c2 hids hokj htk
      have hB1 : B ≤ wr.heap.size := Nat.le_trans hB hb.size
      have hcall := l3Put_own B _ L1 o q cq wr hO1 hB1 hids hokj hoks1 hlen1
      clear hm
      go_wp2_with fail
      refine hcall.mono ?_
      rintro e w1 ⟨v1, L2, rfl, hL2, hO2, hb2⟩
      go_wp2
      refine ⟨⟨j + 1, L2, by omega, by go_num, ?_, hO2, hb.trans hb2⟩, by simp [intOf]; omega⟩
      show _ = _
      rw [hL2, htk.out, putAll_snoc, hL1.out]
    · go_wp2
      go_ret
      refine ⟨_, L1, rfl, ?_, hO1, hb⟩
      rw [hL1.out, List.take_of_length_le (by omega)]

theorem OccsOwn.low {w : World} {B B' : Nat} {v : Value} {L : List OC} (h : OccsOwn w B v L) (hB : B' ≤ B) : OccsOwn w B' v L := by
  refine ⟨h.row.mono hB, fun x hx => ?_, h.lt, h.off, h.apart⟩
  have hi := h.one x hx
  refine ⟨hi.len, fun y hy => Nat.le_trans hB (hi.ge y hy), fun hpos => ?_⟩
  obtain ⟨b, e, q1, q2⟩ := hi.row hpos
  exact ⟨b, e, Nat.le_trans hB q1, q2⟩
/-- What a function hands back that answers a list in memory of its own and whether there is one. -/
def ToldPost (w : World) (l : List Occ) (ok : Bool) (e : Ending) (w' : World) : Prop :=
  ∃ v L, e = .returned (.tuple #[v, .bool ok]) ∧ L.map (·.o) = l ∧ OccsOwn w' w.heap.size v L ∧ Below w.heap.size w w'
def toldF (l : List Occ) : List Occ × Bool := if 40 < l.length then ([], false) else (l, true)

set_option maxHeartbeats 1000000 in
theorem l4Told_any (a : Option Addr) (cap : Nat) (l : List Occ) (w : World) (h : Occs w a l) (hok : ∀ o ∈ l, o.Ok) :
    Calls Try.prog 19 #[.slice a l.length cap] w (ToldPost w (toldF l).1 (toldF l).2) := by
  have hlen := h.len
  unfold maxLen at hlen
  by_cases h40 : (40 : Int) < (l.length : Int)
  · have e : toldF l = ([], false) := if_pos (by omega)
    rw [e]
    go_enter Try.func19, Try.ntmps19
    go_wp2
    go_ret2
    exact ⟨_, [], rfl, rfl, OccsOwn.made _, oBelow_new _ _⟩
  · have e : toldF l = (l, true) := if_neg (by omega)
    rw [e]
    have hsz := oks_size hok
    have hse : occsSize l ≤ 1048576 := by unfold occsSize; omega
    go_enter Try.func19, Try.ntmps19
    go_wp2_with fail
    refine (l3List_any _ _ l _ h hse (fun o ho => (hok o ho).good.1)).mono ?_
    rintro e w1 ⟨v, L, rfl, hL, hO, hb⟩
    go_wp2
    go_ret2
    exact ⟨v, L, rfl, hL, hO, hb⟩

def orF2 (l m : List Occ) : List Occ × Bool := if occsOkB l && occsOkB m then toldF (putAll l m) else ([], false)

set_option maxHeartbeats 1000000 in
theorem specOrOf_any (a a' : Option Addr) (cap cap' : Nat) (l m : List Occ) (w : World) (h : Occs w a l) (h' : Occs w a' m) :
    Calls Try.prog 7 #[.slice a l.length cap, .slice a' m.length cap'] w (ToldPost w (orF2 l m).1 (orF2 l m).2) := by
  cases h1 : occsOkB l
  · have e : orF2 l m = ([], false) := by simp [orF2, h1]
    rw [e]
    go_enter Try.func7, Try.ntmps7
    go_wp2_with fail
    refine (specOccsOk_any _ _ l _ h).mono ?_
    rintro e w1 ⟨rfl, hb1⟩
    rw [h1]
    go_wp2
    go_ret2
    exact ⟨_, [], rfl, rfl, (OccsOwn.made w1).low hb1.size, hb1.alloc hb1.size _⟩
  · cases h2 : occsOkB m
    · have e : orF2 l m = ([], false) := by simp [orF2, h2]
      rw [e]
      go_enter Try.func7, Try.ntmps7
      go_wp2_with fail
      refine (specOccsOk_any _ _ l _ h).mono ?_
      rintro e w1 ⟨rfl, hb1⟩
      rw [h1]
      go_wp2_with fail
      refine (specOccsOk_any _ _ m _ (h'.below hb1)).mono ?_
      rintro e w2 ⟨rfl, hb2⟩
      rw [h2]
      have b2 := hb1.trans (hb2.mono hb1.size)
      go_wp2
      go_ret2
      exact ⟨_, [], rfl, rfl, (OccsOwn.made w2).low b2.size, b2.alloc b2.size _⟩
    · have e : orF2 l m = toldF (putAll l m) := by simp [orF2, h1, h2]
      rw [e]
      have hokl : ∀ o ∈ l, o.Ok := ok_each h1
      have hokm : ∀ o ∈ m, o.Ok := ok_each h2
      have hsz := oks_size hokl
      have hl40 := ok_len h1
      have hm40 := ok_len h2
      have hse : occsSize l ≤ 1048576 := by unfold occsSize; omega
      go_enter Try.func7, Try.ntmps7
      go_wp2_with fail
      refine (specOccsOk_any _ _ l _ h).mono ?_
      rintro e w1 ⟨rfl, hb1⟩
      rw [h1]
      go_wp2_with fail
      refine (specOccsOk_any _ _ m _ (h'.below hb1)).mono ?_
      rintro e w2 ⟨rfl, hb2⟩
      rw [h2]
      have b2 := hb1.trans (hb2.mono hb1.size)
      go_wp2_with fail
      refine (l3List_any _ _ l _ (h.below b2) hse (fun o ho => (hokl o ho).good.1)).mono ?_
      rintro e w3 ⟨v3, L3, rfl, hL3, hO3, hb3⟩
      have b3 := b2.trans (hb3.mono b2.size)
      have hL3n : L3.length ≤ 40 := by have := congrArg List.length hL3; simp at this; omega
      have hm3 : ∀ u, Below w2.heap.size w3 u → Occs u a' m := fun u hu => (h'.below b2).below (hb3.trans hu)
      go_wp2_with fail
      refine (l4Merge_any w2.heap.size v3 L3 a' _ m _ hO3 hb3.size hm3 (oks_of_map hL3 hokl) hokm (by omega)).mono ?_
      rintro e w4 ⟨v4, L4, rfl, hL4, hO4, hb4⟩
      have b24 := hb3.trans hb4
      have b4 := b2.trans (b24.mono b2.size)
      rw [hL3] at hL4
      obtain ⟨a4, c4, rfl⟩ := pOwns_slice hO4.row
      have hocc4 := hO4.occs
      have hlen4 : L4.length = (putAll l m).length := by rw [← hL4]; simp
      rw [hL4] at hocc4
      rw [hlen4]
      have hok4 : ∀ o ∈ putAll l m, o.Ok := fun o ho => by
        rcases (mem_putAll _ _ _).1 ho with h1 | h1
        · exact hokl o h1
        · exact hokm o h1
      clear hm3 hlen4
      go_wp2_with fail
      refine (l4Told_any a4 c4 (putAll l m) _ hocc4 hok4).mono ?_
      rintro e w5 ⟨v5, L5, rfl, hL5, hO5, hb5⟩
      have b5 := b4.trans (hb5.mono b4.size)
      go_wp2
      go_ret2
      exact ⟨v5, L5, rfl, hL5, hO5.low b4.size, b5⟩
end Go.Proofs.Ytmomoboedoljfaa
