/- The order in which rules follow, by the program. -/
import Derived.Test.YtcaodkkomoaphaaDoorRuO3
namespace Go.Proofs.YtcaodkkomoaphaaDoor
open Go.ChangeShapes Go.WideShapes Go.ChangeAt Go.RowKit Go.Deep
set_option linter.unusedVariables false
set_option maxRecDepth 4000

theorem tailI_zero (n : Nat) : tailI 0 n = (List.range n).map Int.ofNat := rfl
def upTo (k : Nat) : List Int := (List.range k).map Int.ofNat
theorem upTo_len (k : Nat) : (upTo k).length = k := by simp [upTo]
theorem upTo_succ (k : Nat) : upTo (k + 1) = upTo k ++ [(k : Int)] := by simp [upTo, List.range_succ]

set_option maxHeartbeats 4000000 in
theorem implOrder_any (a : Option Addr) (cap : Nat) (l : List Ru) (w : World) (t : TypeId) (v : Value) (hE : ErrAt w t v) (h : Rus w a l) (hcap : l.length ≤ cap) (hcm : cap ≤ 9223372036854775807) :
    Calls Tryd.prog 5 #[.slice a l.length cap] w (OrdPost w (ordL l)) := by
  obtain ⟨i0, hi, hz0', hz1, hz2⟩ := info_int_parts
  have hn := h.len
  unfold maxLen at hn
  have b0 := xBelow_new w (.cells #[.slice a l.length cap] 23)
  have hX := bx_new w #[.slice a l.length cap] 23
  have z0 : (w.alloc (.cells #[.slice a l.length cap] 23)).heap.size = w.heap.size + 1 := by simp
  obtain ⟨w0, hw0⟩ : ∃ w0, w.alloc (.cells #[.slice a l.length cap] 23) = w0 := ⟨_, rfl⟩
  rw [hw0] at b0 hX z0
  have x0 := hX.cell 0 rfl
  have hok := implRulesOk_any a cap l w0 t v (hE.below b0) (h.below b0) hcap hcm
  cases hf : rulesOkB l
  · rw [hf] at hok
    have hx : ordL l = [] := by simp [ordL, hf]
    rw [hx]
    clear z0
    go_enter Tryd.func5, Tryd.ntmps5
    go_wp2_with fail
    refine hok.mono ?_
    rintro e w1 ⟨rfl, hb1⟩
    go_wp2
    go_ret
    exact ordPost_of (L := []) (World.ownsRow_nil _ _ 3 _) (b0.trans (hb1.mono b0.size))
  · rw [hf] at hok
    have hx : ordL l = ordS (priOf l) l.length := by simp [ordL, hf]
    rw [hx]
    have hl4 := rulesOk_len hf
    clear hf hx
    have Z0 : Hid (w0.heap.size = w.heap.size + 1) := z0
    clear z0
    go_enter Tryd.func5, Tryd.ntmps5
    go_wp2_with fail
    refine hok.mono ?_
    rintro e w1 ⟨rfl, hb1⟩
    have hb01 := b0.trans (hb1.mono b0.size)
    have hX1 := hX.below hb1
    have x1 := hX1.cell 0 rfl
    clear hok hw0 x0
    go_wp2_with fail
    go_loopw [3, 10] (fun v i wr => ∃ (k : Nat), k ≤ l.length ∧ i = .int .i64 k ∧ wr.ownsRow w0.heap.size 3 1 v (upTo k).length (intCells (upTo k)) ∧ Below w0.heap.size w0 wr) (fun _ i _ => l.length - (intOf i).toNat)
    case atStart => exact ⟨0, Nat.zero_le _, rfl, World.ownsRow_nil _ _ _ _, hb1⟩
    case round =>
      obtain ⟨k, hk, rfl, hO, hb⟩ := hrel
      by_cases hlt : k < l.length
      · have hkl := upTo_len k
        have hsl : (upTo k).length ≤ 4 := by omega
        clear hkl
        go_wp2_with (at_builtin; refine wpList_append_own _ rfl _ _ 25 rfl w0.heap.size 3 i0 (.int .i64 0) 1 8 Tryd.underlying25 hi hz0' hz1 hz2 rfl (by decide) _ _ _ rfl (hO.alloc _) ⟨wr.heap.size, 0, none⟩ 1 1 [.int .i64 k] rfl rfl ?c1 ?c2 ?c3 ?c4 ?c5 ?_)
        case c1 => exact new_int wr k 3
        case c2 => intro u hu; simp at hu; subst hu; rfl
        case c3 => unfold maxLen; omega
        case c4 => omega
        case c5 => have := hb.size; simp; omega
        intro v' w3 hown' hgr _
        have hbe : Below w0.heap.size w0 w3 := (hb.alloc hb.size _).grown hgr (by have := hb.size; simp; omega) (fun x hx => (hO.lt x hx).1)
        go_wp2_with fail
        refine ⟨⟨k + 1, by omega, by go_num, ?_, hbe⟩, by simp [intOf]; omega⟩
        rw [upTo_succ, intCells_snoc, List.length_append]
        exact hown'
      · obtain ⟨p, cp, rfl, hI⟩ := intOwn_of hO
        have hke : k = l.length := by omega
        have hul : (upTo k).length = l.length := by rw [upTo_len]; exact hke
        have hI0 : IntOwn wr w0.heap.size p (tailI 0 l.length) := by rw [tailI_zero, ← hke]; exact hI
        have hlo : ∀ x, p = some x → w0.heap.size ≤ x.block ∧ x.block < wr.heap.size := fun x hx => by subst hx; exact hO.lt x.block rfl
        have xr := (hX.below hb).cell 0 rfl
        have hbw := b0.trans (hb.mono b0.size)
        have hso := sort_any w.heap.size w0.heap.size p a cap cp l wr hl4 (fun u hu => by
          have h1 : Below w0.heap.size wr u := (Below.refl _ _).grown hu hb.size (fun x hx => by
            cases p with
            | none => simp at hx
            | some z => simp at hx; have := (hlo z rfl).1; omega)
          have h2 : Below w0.heap.size w0 u := hb.trans h1
          have h3 := b0.trans (h2.mono b0.size)
          exact ⟨(hX.below h2).cell 0 rfl, h.below h3⟩) hI0
        rw [hul]
        clear hI hI0 hO hke hul
        go_wp2_with fail
        refine hso.mono ?_
        rintro e w4 ⟨rfl, hS, hg⟩
        have h1 : Below w0.heap.size wr w4 := (Below.refl _ _).grown hg hb.size (fun x hx => by
          cases p with
          | none => simp at hx
          | some z => simp at hx; have := (hlo z rfl).1; omega)
        have h2 : Below w0.heap.size w0 w4 := hb.trans h1
        have hbz := b0.trans (h2.mono b0.size)
        go_wp2
        go_ret
        refine ⟨p, cp, by rw [ordS_len]; rfl, ⟨hS.len, fun x hx => Nat.le_trans (by have := Z0.out; omega) (hS.ge x hx), fun hl => ?_⟩, fun x hx => Nat.lt_of_lt_of_le (hlo x hx).2 h1.size, hbz⟩
        obtain ⟨b, e, hB, hlt', hr⟩ := hS.row hl
        exact ⟨b, e, by have := Z0.out; omega, hlt', hr⟩
end Go.Proofs.YtcaodkkomoaphaaDoor
