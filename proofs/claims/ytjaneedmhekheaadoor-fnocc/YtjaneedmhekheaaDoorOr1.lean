/- One of the two: the specification's. -/
import Derived.Test.YtjaneedmhekheaaDoorOccP4
import Derived.Test.YtjaneedmhekheaaDoorOccOrd
namespace Go.Proofs.YtjaneedmhekheaaDoor
open Go.ChangeShapes Go.WideShapes Go.ChangeAt Go.RowKit
set_option linter.unusedVariables false
set_option maxRecDepth 4000

def Occ.Ok (o : Occ) : Prop := occOkB o.fr o.tl o.ids = true
theorem idsFrom_len24 : ∀ (l : List Int) (last : Int), idsFrom last l = true → -1 ≤ last → last < 24 → (l.length : Int) ≤ 23 - last
  | [], last, _, _, h => by simp; omega
  | i :: r, last, h, h0, h1 => by
    simp [idsFrom] at h
    have := idsFrom_len24 r i h.2 (by omega) (by omega)
    simp
    omega
theorem Occ.Ok.good {o : Occ} (h : o.Ok) : 0 < o.ids.length ∧ o.ids.length ≤ 24 ∧ Small o.ids ∧ ∀ i ∈ o.ids, I64 i := by
  have h' : occOkB o.fr o.tl o.ids = true := h
  have hs := occOkB_small h'
  simp only [occOkB, Bool.and_eq_true, decide_eq_true_eq] at h'
  have hl := idsFrom_len24 o.ids (-1) h'.2 (by omega) (by omega)
  refine ⟨h'.1.2.2.2, by omega, hs, fun i hi => ?_⟩
  have := hs i hi
  exact ⟨by omega, by omega⟩
theorem oks_size {l : List Occ} (h : ∀ o ∈ l, o.Ok) : idsTotal l ≤ 24 * l.length := by
  induction l with
  | nil => simp [idsTotal]
  | cons o r ih =>
    have h1 := ih (fun x hx => h x (by simp [hx]))
    have h2 := (h o (by simp)).good.2.1
    simp [idsTotal]
    omega

/-- One more put into a list of the call's own. -/
theorem l3Put_own (B : Nat) (v : Value) (L : List OC) (o : Occ) (a : Option Addr) (cap : Nat) (w : World) (hO : OccsOwn w B v L) (hB : B ≤ w.heap.size) (h : Ints w a o.ids) (hok : o.Ok) (hoks : ∀ x ∈ L, x.o.Ok) (hLn : L.length ≤ 100000) :
    Calls Tryd.prog 37 #[v, .agg #[.int .i64 o.fr, .int .i64 o.tl, .slice a o.ids.length cap]] w
      fun e w' => ∃ v' L', e = .returned v' ∧ L'.map (·.o) = putF o (L.map (·.o)) ∧ OccsOwn w' B v' L' ∧ Below B w w' := by
  obtain ⟨g1, g2, g3, g4⟩ := hok.good
  refine (l3Put_any B v L o a cap w hO.row (fun x hx => (hO.one x hx).ints) hB h g1 (by omega) hLn (fun x hx => (hoks x hx).good.2.2.1) g3 (fun x hx => (hoks x hx).good.2.2.2) g4).mono ?_
  rintro e w' ⟨v', rfl, ⟨hs, rfl, hb⟩ | ⟨hs, a', c', hrow, hg, hi, hl, hv⟩⟩
  · exact ⟨v', L, rfl, by unfold putF; rw [if_pos hs], hO.below hb, hb.mono hB⟩
  · have hbe : Below B w w' := (Below.refl B w).grown hg hB (fun k hk => (hO.row.lt k hk).1)
    obtain ⟨K, hK⟩ : ∃ K, placeF o (L.map (·.o)) = K := ⟨_, rfl⟩
    have hKl : K ≤ L.length := by have := placeF_le o (L.map (·.o)); simp at this; omega
    rw [hK] at hrow
    refine ⟨v', L.take K ++ ⟨o, a', c'⟩ :: L.drop K, rfl, ?_, ⟨?_, ?_, ?_, ?_, ?_⟩, hbe⟩
    · unfold putF; rw [if_neg (by rw [hs]; simp), hK]; simp
    · rw [show (L.take K ++ ⟨o, a', c'⟩ :: L.drop K).length = L.length + 1 by simp; omega]
      exact hrow
    · intro x hx
      rcases List.mem_append.1 hx with hx | hx
      · exact (hO.one x (List.mem_of_mem_take hx)).only hg (hO.off x (List.mem_of_mem_take hx))
      · rcases List.mem_cons.1 hx with rfl | hx
        · refine ⟨hi.len, fun y hy => Nat.le_trans hB (hi.ge y hy), fun hpos => ?_⟩
          obtain ⟨b, e, q1, q2⟩ := hi.row hpos
          exact ⟨b, e, Nat.le_trans hB q1, q2⟩
        · exact (hO.one x (List.mem_of_mem_drop hx)).only hg (hO.off x (List.mem_of_mem_drop hx))
    · intro x hx p hp
      rcases List.mem_append.1 hx with hx | hx
      · exact Nat.lt_of_lt_of_le (hO.lt x (List.mem_of_mem_take hx) p hp) hg.size
      · rcases List.mem_cons.1 hx with rfl | hx
        · exact (hl p hp).1
        · exact Nat.lt_of_lt_of_le (hO.lt x (List.mem_of_mem_drop hx) p hp) hg.size
    · have old : ∀ x ∈ L, ∀ p, x.a = some p → v'.ownBlock ≠ some p.block := by
        intro x hx p hp e
        rcases hv _ e with h1 | h1
        · exact hO.off x hx p hp h1
        · have := hO.lt x hx p hp; omega
      intro x hx p hp
      rcases List.mem_append.1 hx with hx | hx
      · exact old x (List.mem_of_mem_take hx) p hp
      · rcases List.mem_cons.1 hx with rfl | hx
        · exact (hl p hp).2
        · exact old x (List.mem_of_mem_drop hx) p hp
    · have hap := hO.apart
      rw [← List.take_append_drop K L] at hap
      obtain ⟨p1, p2, p3⟩ := List.pairwise_append.1 hap
      have far : ∀ x ∈ L, ∀ p q, x.a = some p → a' = some q → p.block ≠ q.block := by
        intro x hx p q hp hq
        have h1 := hO.lt x hx p hp
        have h2 := hi.ge q hq
        omega
      refine List.pairwise_append.2 ⟨p1, List.pairwise_cons.2 ⟨fun y hy p q hp hq => (far y (List.mem_of_mem_drop hy) q p hq hp).symm, p2⟩, ?_⟩
      intro x hx y hy
      rcases List.mem_cons.1 hy with rfl | hy
      · exact fun p q hp hq => far x (List.mem_of_mem_take hx) p q hp hq
      · exact p3 x hx y hy

theorem oks_of_map {L : List OC} {l : List Occ} (e : L.map (·.o) = l) (h : ∀ o ∈ l, o.Ok) : ∀ x ∈ L, x.o.Ok := by
  intro x hx
  exact h _ (by rw [← e]; exact List.mem_map_of_mem hx)

theorem OccsOwn.low {w : World} {B B' : Nat} {v : Value} {L : List OC} (h : OccsOwn w B v L) (hB : B' ≤ B) : OccsOwn w B' v L := by
  refine ⟨h.row.mono hB, fun x hx => ?_, h.lt, h.off, h.apart⟩
  have hi := h.one x hx
  refine ⟨hi.len, fun y hy => Nat.le_trans hB (hi.ge y hy), fun hpos => ?_⟩
  obtain ⟨b, e, q1, q2⟩ := hi.row hpos
  exact ⟨b, e, Nat.le_trans hB q1, q2⟩
/-- What a function hands back that answers a list in memory of its own and whether there is one. -/
def ToldPost (w : World) (l : List Occ) (ok : Bool) (e : Ending) (w' : World) : Prop :=
  ∃ v L, e = .returned (.tuple #[v, .bool ok]) ∧ L.map (·.o) = l ∧ OccsOwn w' w.heap.size v L ∧ Below w.heap.size w w'
def toldF (l : List Occ) : List Occ × Bool := if 40 < l.length then ([], false) else (l, true)

def orF2 (l m : List Occ) : List Occ × Bool := if occsOkB l && occsOkB m then toldF (putAll l m) else ([], false)

end Go.Proofs.YtjaneedmhekheaaDoor
