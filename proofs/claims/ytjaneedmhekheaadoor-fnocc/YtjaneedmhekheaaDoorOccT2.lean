/- The program's OccsText writes the text of places, where the library's table lies. -/
import Derived.Test.YtjaneedmhekheaaDoorOccT1
import Derived.Test.YtjaneedmhekheaaDoorText
namespace Go.Proofs.YtjaneedmhekheaaDoor
open Go.ChangeShapes Go.WideShapes Go.ChangeAt Go.RowKit
set_option linter.unusedVariables false
set_option maxRecDepth 4000

/-- Block E is a variable that holds the place o. -/
def OBox (w : World) (E : Nat) (o : Occ) (p : Option Addr) (cp : Nat) : Prop := w.heap[E]? = some (.cells #[.int .i64 o.fr, .int .i64 o.tl, .slice p o.ids.length cp] 25 (0, 0))
theorem OBox.below {w w' : World} {E : Nat} {o : Occ} {p : Option Addr} {cp : Nat} (h : OBox w E o p cp) (hb : Below w.heap.size w w') : OBox w' E o p cp := (hb.block E (Array.getElem?_eq_some_iff.1 h).1).trans h
theorem OBox.wrote {w w' : World} {B b E : Nat} {o : Occ} {p : Option Addr} {cp : Nat} (h : OBox w E o p cp) (hw : Wrote B b w w') (hne : E ≠ b) : OBox w' E o p cp :=
  hw.others E _ (Array.getElem?_eq_some_iff.1 h).1 h hne (by intro c f hh; injection hh with _ h2 _; revert h2; decide)
theorem OBox.cells {w : World} {E : Nat} {o : Occ} {p : Option Addr} {cp : Nat} (h : OBox w E o p cp) : w.cell? ⟨E, 0, none⟩ = some (.int .i64 o.fr) ∧ w.cell? ⟨E, 1, none⟩ = some (.int .i64 o.tl) ∧ w.cell? ⟨E, 2, none⟩ = some (.slice p o.ids.length cp) :=
  ⟨oCell h 0, oCell h 1, oCell h 2⟩
theorem itoaB {n : Int} (h : I64 n) (w : World) (ht : Tab w) :
    Calls Tryd.prog 41 #[.int .i64 n] w fun e w' => e = .returned (.string ⟨(Lib.itoa n).toArray⟩) ∧ Below w.heap.size w w' :=
  (Tryd.strconv_Itoa n h.1 h.2 w ht).mono fun _ _ ⟨he, hg⟩ => ⟨he, below_grow hg⟩
/-- Where a walk of the writer stands: the builder holds t, the table lies, nothing below W has turned. -/
structure At (w : World) (t : List UInt8) (v : World) : Prop where
  bld : Bld w.heap.size w.heap.size t v
  bel : Below w.heap.size w v
  tab : Tab v
theorem At.wrote {w v v' : World} {t t' : List UInt8} (h : At w t v) (hT : Tab w) (hB : Bld w.heap.size w.heap.size t' v') (hW : Wrote w.heap.size w.heap.size v v') : At w t' v' :=
  ⟨hB, h.bel.trans hW.below, hT.below (h.bel.trans hW.below) hT.lt⟩
theorem At.later {w v v' : World} {t : List UInt8} (h : At w t v) (hT : Tab w) (hb : Below v.heap.size v v') : At w t v' :=
  ⟨h.bld.later hb, h.bel.trans (hb.mono h.bel.size), hT.below (h.bel.trans (hb.mono h.bel.size)) hT.lt⟩

set_option maxHeartbeats 2000000 in
theorem implOccsText_any (a : Option Addr) (cap : Nat) (l : List Occ) (w : World) (h : Occs w a l) (hn : occsSize l ≤ 1048576) (hw : ∀ o ∈ l, o.Wf) (ht : Tab w) :
    Calls Tryd.prog 15 #[.slice a l.length cap] w fun e w' => e = .returned (.string ⟨(occsText l).toArray⟩) ∧ Below w.heap.size w w' := by
  have hse : occsSize l = l.length + idsTotal l := rfl
  go_enter Tryd.func15, Tryd.ntmps15
  go_wp2
  go_loopw [4, 5, 6, 7, 10] (fun _ _ _ _ i wr => ∃ k : Nat, ∃ t : List UInt8, k ≤ l.length ∧ i = .int .i64 k ∧ At w t wr ∧ Hid (t = occsText (l.take k))) (fun _ _ _ _ i _ => l.length - (intOf i).toNat)
  case atStart => exact ⟨0, [], Nat.zero_le _, rfl, ⟨Lib.fresh_isBuilder 58 5 w, (Below.refl _ _).alloc (Nat.le_refl _) _, ht.below ((Below.refl _ _).alloc (Nat.le_refl _) _) ht.lt⟩, rfl⟩
  case round =>
    revert hrel
    generalize wr = wo
    intro hrel
    obtain ⟨k, t, hk, rfl, hA, hr⟩ := hrel
    have htl : t.length ≤ 100000000 := by
      have h1 := occsText_len (l.take k) (fun e he => hw e (List.mem_of_mem_take he))
      rw [hr.out]
      have h2 : (l.take k).length ≤ l.length := List.length_take_le' _ _
      have h3 := idsTotal_take l k
      omega
    have hb := hA.bel
    have hlt0 := hA.bld.lt
    by_cases hlt : k < l.length
    · obtain ⟨b, off, p, cp, rfl, hbl, c0, c1, c2, hids⟩ := h.at hlt
      have e0 := (hb.cell hbl).trans c0
      have e1 := (hb.cell hbl).trans c1
      have e2 := (hb.cell hbl).trans c2
      have hblo : b < wo.heap.size := Nat.lt_of_lt_of_le hbl hb.size
      have hwf := hw l[k] (List.getElem_mem hlt)
      have hil : l[k].ids.length ≤ 1048576 := by have := idsTotal_get hlt; omega
      have hT1 : 0 < k → Hid (occsText (l.take (k + 1)) = (t ++ [32]) ++ occText l[k]) := by
        intro hk0; show _ = _; rw [hr.out]; unfold occsText; rw [sepText_succ 32 occText hlt hk0]; simp
      have hT0 : ¬ 0 < k → Hid (occsText (l.take (k + 1)) = t ++ occText l[k]) := by
        intro hk0; show _ = _; rw [hr.out]; unfold occsText; rw [sepText_zero 32 occText hlt hk0]
      have hln := hids.len
      clear c0 c1 c2 hr
      generalize l[k] = o at e0 e1 e2 hids hwf hil hT0 hT1 hln
      have h1 := itoa_len20 hwf.fr
      have h2 := itoa_len20 hwf.tl
      obtain ⟨v0, hv0⟩ : ∃ v0, wo.alloc (.cells #[.int .i64 o.fr, .int .i64 o.tl, .slice p o.ids.length cp] 25) = v0 := ⟨_, rfl⟩
      have hbv0 := oBelow_new wo (.cells #[.int .i64 o.fr, .int .i64 o.tl, .slice p o.ids.length cp] 25)
      have x0 : OBox (wo.alloc (.cells #[.int .i64 o.fr, .int .i64 o.tl, .slice p o.ids.length cp] 25)) wo.heap.size o p cp := heap_alloc_new wo _
      rw [hv0] at hbv0 x0
      have A0 := hA.later ht hbv0
      have hne : wo.heap.size ≠ w.heap.size := by omega
      by_cases hk0 : 0 < k
      · have hk1 : (0 : Int) < (k : Int) := by omega
        have hkd : decide (0 < k) = true := by simpa using hk0
        have hT := hT1 hk0
        clear hT0 hT1 hk0
        go_wp2_with fail
        refine (writeByte_any _ _ t 32 _ A0.bld (by omega) A0.bel.size).mono ?_
        rintro e v1 ⟨rfl, B1, W1⟩
        have A1 := A0.wrote ht B1 W1
        have x1 := x0.wrote W1 hne
        have hTl : (t ++ [32]).length ≤ 100000001 := by simp; omega
        obtain ⟨p0, p1, p2⟩ := x1.cells
        generalize t ++ [32] = T at hT A1 hTl B1
        clear A0 x0 W1 B1 hbv0 hv0
        go_wp2_with fail
        refine (itoaB hwf.fr _ A1.tab).mono ?_
        rintro e v2 ⟨rfl, g2⟩
        have A2 := A1.later ht g2
        have x2 := x1.below g2
        clear p0 p1 p2
        go_wp2_with fail
        refine (writeString_any _ _ T (Lib.itoa o.fr) _ A2.bld (by omega) A2.bel.size).mono ?_
        rintro e v3 ⟨rfl, B3, W3⟩
        have A3 := A2.wrote ht B3 W3
        have x3 := x2.wrote W3 hne
        go_wp2_with fail
        refine (writeByte_any _ _ (T ++ Lib.itoa o.fr) 45 _ A3.bld (by simp; omega) A3.bel.size).mono ?_
        rintro e v4 ⟨rfl, B4, W4⟩
        have A4 := A3.wrote ht B4 W4
        have x4 := x3.wrote W4 hne
        obtain ⟨p0, p1, p2⟩ := x4.cells
        go_wp2_with fail
        refine (itoaB hwf.tl _ A4.tab).mono ?_
        rintro e v5 ⟨rfl, g5⟩
        have A5 := A4.later ht g5
        have x5 := x4.below g5
        clear p0 p1 p2
        go_wp2_with fail
        refine (writeString_any _ _ (T ++ Lib.itoa o.fr ++ [45]) (Lib.itoa o.tl) _ A5.bld (by simp; omega) A5.bel.size).mono ?_
        rintro e v6 ⟨rfl, B6, W6⟩
        have A6 := A5.wrote ht B6 W6
        have x6 := x5.wrote W6 hne
        go_wp2_with fail
        refine (writeByte_any _ _ (T ++ Lib.itoa o.fr ++ [45] ++ Lib.itoa o.tl) 40 _ A6.bld (by simp; omega) A6.bel.size).mono ?_
        rintro e v7 ⟨rfl, B7, W7⟩
        have A7 := A6.wrote ht B7 W7
        have x7 := x6.wrote W7 hne
        obtain ⟨P, hP⟩ : ∃ P : List UInt8, T ++ Lib.itoa o.fr ++ [45] ++ Lib.itoa o.tl ++ [40] = P := ⟨_, rfl⟩
        have hPl : P.length ≤ 100000100 := by rw [← hP]; simp; omega
        have hnx : Hid (occsText (l.take (k + 1)) = P ++ idsText o.ids ++ [41]) := by show _ = _; rw [hT.out, ← hP]; simp [occText]
        rw [hP] at A7
        clear hP hT A2 A3 A4 A5 A6 x2 x3 x4 x5 x6 B3 B4 B6 B7 W3 W4 W6 W7 g2 g5
        obtain ⟨p0, p1, p2⟩ := x7.cells
        go_wp2_with fail
        clear p0 p1 p2
        go_loopw [6, 7, 31] (fun _ _ i wr => ∃ j : Nat, ∃ u : List UInt8, j ≤ o.ids.length ∧ i = .int .i64 j ∧ At w u wr ∧ Hid (u = P ++ idsText (o.ids.take j))) (fun _ _ i _ => o.ids.length - (intOf i).toNat)
        case atStart => exact ⟨0, P, Nat.zero_le _, rfl, A7, by show _ = _; simp [idsText, sepText]⟩
        case round =>
          obtain ⟨j, u, hj, rfl, AR, hru⟩ := hrel
          have hul : u.length ≤ 200000000 := by
            have h1 := idsText_len (o.ids.take j) (fun e he => hwf.ids e (List.mem_of_mem_take he))
            rw [hru.out]
            have h2 : (o.ids.take j).length ≤ o.ids.length := List.length_take_le' _ _
            simp
            omega
          by_cases hjl : j < o.ids.length
          · obtain ⟨bi, offi, hpe, hbi, hci⟩ := (hids.below AR.bel).cells (by omega)
            have g0 := hci j hjl
            subst hpe
            have hxi := hwf.ids _ (List.getElem_mem hjl)
            have hx21 := itoa_len20 hxi
            by_cases hj0 : 0 < j
            · have hst : Hid (idsText (o.ids.take (j + 1)) = idsText (o.ids.take j) ++ 44 :: Lib.itoa o.ids[j]) := sepText_succ 44 Lib.itoa hjl hj0
              generalize o.ids[j] = z at g0 hxi hx21 hst
              have hj1 : (0 : Int) < (j : Int) := by omega
              have hjd : decide (0 < j) = true := by simpa using hj0
              clear hci hj0
              go_wp2_with fail
              refine (writeByte_any _ _ u 44 _ AR.bld (by omega) AR.bel.size).mono ?_
              rintro e y1 ⟨rfl, C1, V1⟩
              have D1 := AR.wrote ht C1 V1
              go_wp2_with fail
              refine (itoaB hxi _ D1.tab).mono ?_
              rintro e y2 ⟨rfl, k2⟩
              have D2 := D1.later ht k2
              go_wp2_with fail
              refine (writeString_any _ _ (u ++ [44]) (Lib.itoa z) _ D2.bld (by simp; omega) D2.bel.size).mono ?_
              rintro e y3 ⟨rfl, C3, V3⟩
              have D3 := D2.wrote ht C3 V3
              go_wp2
              refine ⟨⟨j + 1, u ++ [44] ++ Lib.itoa z, by omega, by go_num, D3, ?_⟩, by simp [intOf]; omega⟩
              show _ = _
              rw [hst.out, hru.out]
              simp
            · have hst : Hid (idsText (o.ids.take (j + 1)) = idsText (o.ids.take j) ++ Lib.itoa o.ids[j]) := sepText_zero 44 Lib.itoa hjl hj0
              generalize o.ids[j] = z at g0 hxi hx21 hst
              have hj1 : (j : Int) ≤ 0 := by omega
              have hjd : decide (0 < j) = false := by simpa using hj0
              clear hci hj0
              go_wp2_with fail
              refine (itoaB hxi _ AR.tab).mono ?_
              rintro e y2 ⟨rfl, k2⟩
              have D2 := AR.later ht k2
              go_wp2_with fail
              refine (writeString_any _ _ u (Lib.itoa z) _ D2.bld (by omega) D2.bel.size).mono ?_
              rintro e y3 ⟨rfl, C3, V3⟩
              have D3 := D2.wrote ht C3 V3
              go_wp2
              refine ⟨⟨j + 1, u ++ Lib.itoa z, by omega, by go_num, D3, ?_⟩, by simp [intOf]; omega⟩
              show _ = _
              rw [hst.out, hru.out]
              simp
          · go_wp2_with fail
            refine (writeByte_any _ _ u 41 _ AR.bld (by omega) AR.bel.size).mono ?_
            rintro e y1 ⟨rfl, C1, V1⟩
            have D1 := AR.wrote ht C1 V1
            go_wp2
            refine ⟨⟨k + 1, u ++ [41], by omega, by go_num, D1, ?_⟩, by simp [intOf]; omega⟩
            show _ = _
            rw [hnx.out, hru.out, List.take_of_length_le (by omega)]
      · have hk1 : (k : Int) ≤ 0 := by omega
        have hkd : decide (0 < k) = false := by simpa using hk0
        have hT := hT0 hk0
        have hTl : t.length ≤ 100000001 := by omega
        clear hT0 hT1 hk0
        obtain ⟨p0, p1, p2⟩ := x0.cells
        go_wp2_with fail
        refine (itoaB hwf.fr _ A0.tab).mono ?_
        rintro e v2 ⟨rfl, g2⟩
        have A2 := A0.later ht g2
        have x2 := x0.below g2
        clear p0 p1 p2
        go_wp2_with fail
        refine (writeString_any _ _ t (Lib.itoa o.fr) _ A2.bld (by omega) A2.bel.size).mono ?_
        rintro e v3 ⟨rfl, B3, W3⟩
        have A3 := A2.wrote ht B3 W3
        have x3 := x2.wrote W3 hne
        go_wp2_with fail
        refine (writeByte_any _ _ (t ++ Lib.itoa o.fr) 45 _ A3.bld (by simp; omega) A3.bel.size).mono ?_
        rintro e v4 ⟨rfl, B4, W4⟩
        have A4 := A3.wrote ht B4 W4
        have x4 := x3.wrote W4 hne
        obtain ⟨p0, p1, p2⟩ := x4.cells
        go_wp2_with fail
        refine (itoaB hwf.tl _ A4.tab).mono ?_
        rintro e v5 ⟨rfl, g5⟩
        have A5 := A4.later ht g5
        have x5 := x4.below g5
        clear p0 p1 p2
        go_wp2_with fail
        refine (writeString_any _ _ (t ++ Lib.itoa o.fr ++ [45]) (Lib.itoa o.tl) _ A5.bld (by simp; omega) A5.bel.size).mono ?_
        rintro e v6 ⟨rfl, B6, W6⟩
        have A6 := A5.wrote ht B6 W6
        have x6 := x5.wrote W6 hne
        go_wp2_with fail
        refine (writeByte_any _ _ (t ++ Lib.itoa o.fr ++ [45] ++ Lib.itoa o.tl) 40 _ A6.bld (by simp; omega) A6.bel.size).mono ?_
        rintro e v7 ⟨rfl, B7, W7⟩
        have A7 := A6.wrote ht B7 W7
        have x7 := x6.wrote W7 hne
        obtain ⟨P, hP⟩ : ∃ P : List UInt8, t ++ Lib.itoa o.fr ++ [45] ++ Lib.itoa o.tl ++ [40] = P := ⟨_, rfl⟩
        have hPl : P.length ≤ 100000100 := by rw [← hP]; simp; omega
        have hnx : Hid (occsText (l.take (k + 1)) = P ++ idsText o.ids ++ [41]) := by show _ = _; rw [hT.out, ← hP]; simp [occText]
        rw [hP] at A7
        clear hP hT A2 A3 A4 A5 A6 x2 x3 x4 x5 x6 B3 B4 B6 B7 W3 W4 W6 W7 g2 g5
        obtain ⟨p0, p1, p2⟩ := x7.cells
        go_wp2_with fail
        clear p0 p1 p2
        go_loopw [6, 7, 31] (fun _ _ i wr => ∃ j : Nat, ∃ u : List UInt8, j ≤ o.ids.length ∧ i = .int .i64 j ∧ At w u wr ∧ Hid (u = P ++ idsText (o.ids.take j))) (fun _ _ i _ => o.ids.length - (intOf i).toNat)
        case atStart => exact ⟨0, P, Nat.zero_le _, rfl, A7, by show _ = _; simp [idsText, sepText]⟩
        case round =>
          obtain ⟨j, u, hj, rfl, AR, hru⟩ := hrel
          have hul : u.length ≤ 200000000 := by
            have h1 := idsText_len (o.ids.take j) (fun e he => hwf.ids e (List.mem_of_mem_take he))
            rw [hru.out]
            have h2 : (o.ids.take j).length ≤ o.ids.length := List.length_take_le' _ _
            simp
            omega
          by_cases hjl : j < o.ids.length
          · obtain ⟨bi, offi, hpe, hbi, hci⟩ := (hids.below AR.bel).cells (by omega)
            have g0 := hci j hjl
            subst hpe
            have hxi := hwf.ids _ (List.getElem_mem hjl)
            have hx21 := itoa_len20 hxi
            by_cases hj0 : 0 < j
            · have hst : Hid (idsText (o.ids.take (j + 1)) = idsText (o.ids.take j) ++ 44 :: Lib.itoa o.ids[j]) := sepText_succ 44 Lib.itoa hjl hj0
              generalize o.ids[j] = z at g0 hxi hx21 hst
              have hj1 : (0 : Int) < (j : Int) := by omega
              have hjd : decide (0 < j) = true := by simpa using hj0
              clear hci hj0
              go_wp2_with fail
              refine (writeByte_any _ _ u 44 _ AR.bld (by omega) AR.bel.size).mono ?_
              rintro e y1 ⟨rfl, C1, V1⟩
              have D1 := AR.wrote ht C1 V1
              go_wp2_with fail
              refine (itoaB hxi _ D1.tab).mono ?_
              rintro e y2 ⟨rfl, k2⟩
              have D2 := D1.later ht k2
              go_wp2_with fail
              refine (writeString_any _ _ (u ++ [44]) (Lib.itoa z) _ D2.bld (by simp; omega) D2.bel.size).mono ?_
              rintro e y3 ⟨rfl, C3, V3⟩
              have D3 := D2.wrote ht C3 V3
              go_wp2
              refine ⟨⟨j + 1, u ++ [44] ++ Lib.itoa z, by omega, by go_num, D3, ?_⟩, by simp [intOf]; omega⟩
              show _ = _
              rw [hst.out, hru.out]
              simp
            · have hst : Hid (idsText (o.ids.take (j + 1)) = idsText (o.ids.take j) ++ Lib.itoa o.ids[j]) := sepText_zero 44 Lib.itoa hjl hj0
              generalize o.ids[j] = z at g0 hxi hx21 hst
              have hj1 : (j : Int) ≤ 0 := by omega
              have hjd : decide (0 < j) = false := by simpa using hj0
              clear hci hj0
              go_wp2_with fail
              refine (itoaB hxi _ AR.tab).mono ?_
              rintro e y2 ⟨rfl, k2⟩
              have D2 := AR.later ht k2
              go_wp2_with fail
              refine (writeString_any _ _ u (Lib.itoa z) _ D2.bld (by omega) D2.bel.size).mono ?_
              rintro e y3 ⟨rfl, C3, V3⟩
              have D3 := D2.wrote ht C3 V3
              go_wp2
              refine ⟨⟨j + 1, u ++ Lib.itoa z, by omega, by go_num, D3, ?_⟩, by simp [intOf]; omega⟩
              show _ = _
              rw [hst.out, hru.out]
              simp
          · go_wp2_with fail
            refine (writeByte_any _ _ u 41 _ AR.bld (by omega) AR.bel.size).mono ?_
            rintro e y1 ⟨rfl, C1, V1⟩
            have D1 := AR.wrote ht C1 V1
            go_wp2
            refine ⟨⟨k + 1, u ++ [41], by omega, by go_num, D1, ?_⟩, by simp [intOf]; omega⟩
            show _ = _
            rw [hnx.out, hru.out, List.take_of_length_le (by omega)]
    · go_wp2_with fail
      refine (Tryd.Builder_String_any _ _ t _ hA.bld hb.size).mono ?_
      rintro e w1 ⟨rfl, hb1⟩
      go_wp2
      go_ret
      rw [List.take_of_length_le (by omega)] at hr
      exact ⟨ret_str (by rw [hr.out]), hb.trans hb1⟩
end Go.Proofs.YtjaneedmhekheaaDoor
