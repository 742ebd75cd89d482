/- What the program's ExSame answers. -/
import Derived.Test.YtpokhhplgljmiaaDoorExE3
import Derived.Test.YtpokhhplgljmiaaDoorExE5
namespace Go.Proofs.YtpokhhplgljmiaaDoor
open Go.ChangeShapes Go.WideShapes Go.ChangeAt Go.RowKit
set_option linter.unusedVariables false
set_option maxRecDepth 4000

theorem measure_step {M N e l l0 : Nat} (h : e + 1 ≤ M) (hl : l ≤ N) : (M - (e + 1)) * (N + 1) + l < (M - e) * (N + 1) + (l0 + 1) := by
  obtain ⟨d, hd⟩ : ∃ d, M - e = d + 1 := ⟨M - e - 1, by omega⟩
  rw [hd, show M - (e + 1) = d by omega, Nat.succ_mul]
  omega

set_option maxHeartbeats 20000000 in
/-- The loop over all pairs, from where its state is as it should. -/
theorem implExSameAt_any (kd sy n kd' sy' n' : Int) (p : Option Addr) (pc : Nat) (S : List Nat) (F : Fo) (a' : Option Addr) (cap' : Nat) (F' : Fo) (w : World) (h : OwnAt w p S F) (hnd : S.Nodup) (hlen : F.len ≤ maxLen) (h' : Slc w a' F') (hs : F.size ≤ 1048576) :
    Calls Tryd.prog 14 #[.agg #[.int .i64 kd, .int .i64 sy, .int .i64 n, .slice p F.len pc], .agg #[.int .i64 kd', .int .i64 sy', .int .i64 n', .slice a' F'.len cap']] w
      fun e w' => e = .returned (.bool (eqX kd sy n F kd' sy' n' F')) ∧ Below w.heap.size w w' := by
  have hmm := @run_makeMap Tryd.prog
  obtain ⟨i0, hi, hz0, hz1, hz2⟩ := info_two
  obtain ⟨Wb, hWb⟩ : ∃ Wb, ((((w.alloc (.cells #[.int .i64 kd, .int .i64 sy, .int .i64 n, .slice p F.len pc] 25)).alloc (.cells #[.int .i64 kd', .int .i64 sy', .int .i64 n', .slice a' F'.len cap'] 25)).alloc
      (.cells #[.int .i64 kd, .int .i64 sy, .int .i64 n, .slice p F.len pc] 25)).alloc (.cells #[.int .i64 kd', .int .i64 sy', .int .i64 n', .slice a' F'.len cap'] 25)) = Wb := ⟨_, rfl⟩
  obtain ⟨R, hR⟩ : ∃ R, eqX kd sy n F kd' sy' n' F' = R := ⟨_, rfl⟩
  rw [hR]
  have hszb : Wb.heap.size = w.heap.size + 1 + 1 + 1 + 1 := by rw [← hWb]; simp
  obtain ⟨N, hN⟩ : ∃ N, F.size + 2 = N := ⟨_, rfl⟩
  obtain ⟨M, hM⟩ : ∃ M, S.length + 10 = M := ⟨_, rfl⟩
  have hstart := same_start kd sy n kd' sy' n' p pc S F a' cap' F' w Wb h hnd hlen h' hWb
  rw [hR, hM, hN] at hstart
  have hbb : Below w.heap.size w Wb := by rw [← hWb]; exact ((belE2 _ _ _).alloc (by simp; omega) _).alloc (by simp; omega) _
  clear h h' hR hM hnd
  have hWb' : Hid (_ = Wb) := hWb
  go_enter Tryd.func14, Tryd.ntmps14
  go_wp2
  clear hWb hWb'
  go_loopw [5] (fun v wr => ∃ L, SameInv Wb (w.heap.size + 1 + 1 + 1 + 1 + 1) M N R v wr L) (fun v wr => (M - mapSize wr (w.heap.size + 1 + 1 + 1 + 1 + 1)) * (N + 1) + lenOf v)
  case atStart => exact hstart
  case round =>
    clear hstart
    revert hrel
    generalize wr = wo
    intro hrel
    obtain ⟨L, hL⟩ := hrel
    obtain ⟨H, hH⟩ : ∃ H, w.heap.size + 1 + 1 + 1 + 1 + 1 = H := ⟨_, rfl⟩
    rcases List.eq_nil_or_concat L with rfl | ⟨L0, t, rfl⟩
    · have hRt : R = true := hL.val
      have hbw := hbb.trans (hL.bel.mono hbb.size)
      rcases hL.row.2 with ⟨rfl, _⟩ | ⟨g, c, cur, rfl, _⟩
      · go_wp2
        go_ret
        exact ⟨by rw [hRt]; rfl, hbw⟩
      · go_wp2
        go_ret
        exact ⟨by rw [hRt]; rfl, hbw⟩
    · rw [List.concat_eq_append] at hL
      have hlen : (L0 ++ [t]).length = L0.length + 1 := by simp
      have hrow := hL.row
      rw [hlen, twCells_snoc] at hrow
      obtain ⟨g, cp, rfl⟩ := ownsRow_succ hrow
      obtain ⟨hrow0, y0, y1⟩ := own_pop hrow
      have hcnt := hL.cnt
      rw [hlen, sizes_snoc] at hcnt
      have hbl := belE1 wo (.cells #[.slice t.a t.F.len t.ca, .slice t.b t.G.len t.cb] 50)
      have hbw := hbb.trans (hL.bel.mono hbb.size)
      have hbw1 := hbw.trans (hbl.mono hbw.size)
      have hval := hL.val
      rw [List.all_append] at hval
      have hot := hL.own t (by simp)
      have hcp : L0.length + 1 ≤ cp := by
        rcases hrow.2 with ⟨h, _⟩ | ⟨g2, c2, cur, h, _, _, h3, _⟩
        · simp at h
        · simp only [Value.slice.injEq, Option.some.injEq, Addr.mk.injEq, and_true, true_and] at h
          obtain ⟨rfl, rfl⟩ := h
          exact h3
      have hcm : cp ≤ maxLen := by
        rcases hrow.2 with ⟨h, _⟩ | ⟨g2, c2, cur, h, _, _, _, h3, _⟩
        · simp at h
        · simp only [Value.slice.injEq, Option.some.injEq, Addr.mk.injEq, and_true, true_and] at h
          obtain ⟨rfl, rfl⟩ := h
          exact h3
      have hlA := hot.lenA
      have hlB := hot.slc.len
      unfold maxLen at hcm hlA hlB
      by_cases hle : t.F.len = t.G.len
      · by_cases h0 : t.F.len = 0
        · have h0' : t.G.len = 0 := by omega
          have hmap := hL.map
          rw [blocks_snoc, hot.none h0, List.append_nil] at hmap
          obtain ⟨hmap1, hms⟩ := hmap.below hbl
          have hnext : SameInv Wb (w.heap.size + 1 + 1 + 1 + 1 + 1) M N R (.slice (some ⟨g, 0, none⟩) L0.length cp) (wo.alloc (.cells #[.slice t.a t.F.len t.ca, .slice t.b t.G.len t.cb] 50)) L0 := by
            refine ⟨owns_below hrow0 hbl, hL.bel.trans (hbl.mono hL.bel.size), hmap1, fun x hx => hL.own x (by simp [hx]), ?_, by omega⟩
            have he : eqF t.F t.G = true := by rw [nil_of_len h0, nil_of_len h0']; rfl
            rw [hval]
            simp [he]
          rw [h0, h0'] at hnext hms
          have z1 : (t.F.len : Int) = 0 := by omega
          have z2 : (t.G.len : Int) = 0 := by omega
          clear hH
          go_wp2
          exact ⟨⟨L0, hnext⟩, by rw [hms]; simp [lenOf]⟩
        · obtain ⟨bF, SF, hta, htS, hBF, hKF⟩ := hot.some (by omega)
          obtain ⟨bG, oG, htb, hbG, hKG⟩ := hot.slc.cells (by omega)
          obtain ⟨w1, hw1⟩ : ∃ w1, wo.alloc (.cells #[.slice t.a t.F.len t.ca, .slice t.b t.G.len t.cb] 50) = w1 := ⟨_, rfl⟩
          rw [hw1] at hbl hbw1
          have hbox1 : w1.heap[wo.heap.size]? = some (.cells #[.slice t.a t.F.len t.ca, .slice t.b t.G.len t.cb] 50 (0, 0)) := by rw [← hw1]; exact heap_alloc_new wo _
          have x0 : w1.cell? ⟨wo.heap.size, 0, none⟩ = some (.slice t.a t.F.len t.ca) := cell_at hbox1 0
          have x1 : w1.cell? ⟨wo.heap.size, 1, none⟩ = some (.slice t.b t.G.len t.cb) := cell_at hbox1 1
          have hx1 : wo.heap.size < w1.heap.size := by rw [← hw1]; simp
          have hmap := hL.map
          rw [blocks_snoc, htS] at hmap
          obtain ⟨es, c, V, hHwr, hkeys, hborn, hV, hnd, hms⟩ := hmap.ex
          have belE1' : Below Wb.heap.size Wb w1 := hL.bel.trans (hbl.mono hL.bel.size)
          have z1 : ((t.F.len : Int) != (t.G.len : Int)) = false := by simp; omega
          have z2 : ((t.F.len : Int) == 0) = false := by simp; omega
          have hH1 := (hbl.block _ (Array.getElem?_eq_some_iff.1 hHwr).1).trans hHwr
          have hnV : bF ∉ V := fun hx => by
            have := List.nodup_append.1 hnd
            exact this.2.2 bF hx bF (by simp) rfl
          rw [hta] at x0 y0 hbox1 hw1
          rw [htb] at x1 y1 hbox1 hw1
          have hBF1 : ∀ w', Below w1.heap.size w1 w' → Blk w' bF := fun w' hb' => hBF.of ((belE1'.trans (hb'.mono belE1'.size)).block bF hBF.lt)
          have hV1 : ∀ w', Below w1.heap.size w1 w' → ∀ x ∈ V, Blk w' x := fun w' hb' x hx => (hV x hx).of ((belE1'.trans (hb'.mono belE1'.size)).block x (hV x hx).lt)
          have hHlt : w.heap.size + 1 + 1 + 1 + 1 + 1 < w1.heap.size := (Array.getElem?_eq_some_iff.1 hH1).1
          have hG0 : 0 < t.G.len := by omega
          have hF0 : 0 < t.F.len := by omega
          have hle' : Hid (t.F.len = t.G.len) := hle
          clear hH hle
          go_wp2_with fail
          refine (key_any ⟨bF, 0, none⟩ ⟨bG, oG, none⟩ t.F.len t.G.len t.ca t.cb _ hF0 hG0 hot.lenA hot.slc.len).mono ?_
          rintro e w2 ⟨rfl, hb2⟩
          have hH2 := (hb2.block _ hHlt).trans hH1
          have hlk := lookup_none w2 _ es c ⟨bF, 0, none⟩ ⟨bG, oG, none⟩ t.F.len V hH2 (hBF1 w2 hb2) (hV1 w2 hb2) hnV hkeys
          have x0' := (hb2.cell (p := ⟨wo.heap.size, 0, none⟩) hx1).trans x0
          have x1' := (hb2.cell (p := ⟨wo.heap.size, 1, none⟩) hx1).trans x1
          have hb2d : Below w1.heap.size w1 w2.drew := hb2.drew
          have hwrap : IntKind.i64.wrap 1 = 1 := by decide
          go_wp2_with fail
          clear hlk
          go_region_with (go_at_call 26; refine (key_any ⟨bF, 0, none⟩ ⟨bG, oG, none⟩ t.F.len t.G.len t.ca t.cb _ hF0 hG0 hot.lenA hot.slc.len).mono ?_; rintro e w3 ⟨rfl, hb3⟩; have hb3' := hb2d.trans (hb3.mono hb2d.size); obtain ⟨W4, W5, q1, q2, q3, q4, q5, q6, q7⟩ := map_step w3 _ es c ⟨bF, 0, none⟩ ⟨bG, oG, none⟩ t.F.len V ((hb3'.block _ hHlt).trans hH1) (hBF1 w3 hb3') (hV1 w3 hb3') hnV hkeys hborn)
          all_goals
            obtain ⟨hin, hmsz⟩ := InInv.start (N := N) (t := t) (b := ⟨bG, oG, none⟩) hrow0 hL.bel (hbl.trans (hb3'.mono hbl.size)) ((hb3'.block _ hx1).trans (by rw [hta, htb]; exact hbox1)) q5 q6 q7 (by omega) hHwr hkeys hborn hV hBF hnd hms (fun x hx => hL.own x (by simp [hx])) hKF (by simpa using hval) (by omega)
            have hesz : mapSize wo (w.heap.size + 1 + 1 + 1 + 1 + 1) = es.size := mapSize_of hHwr
            have x0'' : W5.cell? ⟨wo.heap.size, 0, none⟩ = some (.slice (some ⟨bF, 0, none⟩) t.F.len t.ca) := by rw [cell_at hin.box 0, hta]; rfl
            clear q1 q2 q3 q4 q5 q6 q7 hb3 hb3' hb2 hb2d x0 x1 x0' x1' y0 y1 hV1 hBF1 hH1 hH2 hw1
            go_wp2
            go_loopw [5, 60] (fun v i wr => ∃ (k : Nat) (L : List Tw) (Sk : List Nat), k ≤ t.F.len ∧ i = .int .i64 k ∧ InInv Wb (w.heap.size + 1 + 1 + 1 + 1 + 1) M N wo.heap.size bF R t v wr k L Sk ∧ mapSize wr (w.heap.size + 1 + 1 + 1 + 1 + 1) = es.size + 1) (fun _ i _ => t.F.len - (intOf i).toNat)
            case atStart => exact ⟨0, L0, SF, Nat.zero_le _, rfl, hin, hmsz⟩
            case round =>
              clear hin hmsz x0''
              obtain ⟨k, L, Sk, hk, rfl, hin, hmsz⟩ := hrel
              by_cases hlt : k < t.F.len
              · obtain ⟨kd1, sy1, n1, kids, a1, c1, S1, S2, kd2, sy2, n2, kids', a2, c2, hd, hd', eS, ⟨g0, g1, g2, g3⟩, ⟨d0, d1, d2, d3⟩, ho, hkn⟩ := hin.at hlt hle'.out hBF hbG hKG
                have hltG : k < t.G.len := by have := hle'.out; omega
                have hbx : wr.cell? ⟨wo.heap.size, 1, none⟩ = some (.slice (some ⟨bG, oG, none⟩) t.G.len t.cb) := by rw [cell_at hin.box 1, htb]; rfl
                have hbxl : wo.heap.size < wr.heap.size := (Array.getElem?_eq_some_iff.1 hin.box).1
                have hwbl : Wb.heap.size ≤ wr.heap.size := hin.bel.size
                obtain ⟨A1, hA1⟩ : ∃ A1, wr.alloc (.cells #[.int .i64 kd1, .int .i64 sy1, .int .i64 n1, .slice a1 kids.len c1] 25) = A1 := ⟨_, rfl⟩
                have hb1' : Below wr.heap.size wr A1 := by rw [← hA1]; exact belE1 _ _
                have s1 : A1.heap.size = wr.heap.size + 1 := by rw [← hA1]; simp
                obtain ⟨x0, x1, x2, x3⟩ := box4 wr (.int .i64 kd1) (.int .i64 sy1) (.int .i64 n1) (.slice a1 kids.len c1) 25
                rw [hA1] at x0 x1 x2 x3
                obtain ⟨A2, hA2⟩ : ∃ A2, A1.alloc (.cells #[.int .i64 kd2, .int .i64 sy2, .int .i64 n2, .slice a2 kids'.len c2] 25) = A2 := ⟨_, rfl⟩
                have hb2' : Below A1.heap.size A1 A2 := by rw [← hA2]; exact belE1 _ _
                obtain ⟨y0, y1, y2, y3⟩ := box4 A1 (.int .i64 kd2) (.int .i64 sy2) (.int .i64 n2) (.slice a2 kids'.len c2) 25
                rw [hA2, s1] at y0 y1 y2 y3
                have hbx1 := (hb1'.cell (p := ⟨wo.heap.size, 1, none⟩) hbxl).trans hbx
                have e0 := (hb1'.cell (p := ⟨bG, oG + k * 4, none⟩) (show bG < _ by omega)).trans d0
                have e1 := (hb1'.cell (p := ⟨bG, oG + k * 4 + 1, none⟩) (show bG < _ by omega)).trans d1
                have e2 := (hb1'.cell (p := ⟨bG, oG + k * 4 + 2, none⟩) (show bG < _ by omega)).trans d2
                have e3 := (hb1'.cell (p := ⟨bG, oG + k * 4 + 3, none⟩) (show bG < _ by omega)).trans d3
                have x0 := (hb2'.cell (p := ⟨wr.heap.size, 0, none⟩) (show wr.heap.size < _ by omega)).trans x0
                have x1 := (hb2'.cell (p := ⟨wr.heap.size, 1, none⟩) (show wr.heap.size < _ by omega)).trans x1
                have x2 := (hb2'.cell (p := ⟨wr.heap.size, 2, none⟩) (show wr.heap.size < _ by omega)).trans x2
                have x3 := (hb2'.cell (p := ⟨wr.heap.size, 3, none⟩) (show wr.heap.size < _ by omega)).trans x3
                have hb12 := hb1'.trans (hb2'.mono hb1'.size)
                have hbwr : Below w.heap.size w wr := hbb.trans (hin.bel.mono hbb.size)
                have hbA2 : Below w.heap.size w A2 := hbwr.trans (hb12.mono hbwr.size)
                clear hbx d0 d1 d2 d3
                have hcase : (kd1 = kd2 ∧ sy1 = sy2 ∧ n1 = n2) ∨ ¬ (kd1 = kd2 ∧ sy1 = sy2 ∧ n1 = n2) := Classical.em _
                rcases hcase with ⟨rfl, rfl, rfl⟩ | hno
                · have hcn := hin.cnt
                  have hal3 := belE1 A2 (.cells #[.slice a1 kids.len c1, .slice a2 kids'.len c2] 50)
                  have hb3' := hb12.trans (hal3.mono hb12.size)
                  obtain ⟨v', w', hrun, r1, r2, r3⟩ := append_whereE (P := Tryd.prog) (A2.alloc (.cells #[.slice a1 kids.len c1, .slice a2 kids'.len c2] 50)) Wb.heap.size 51 51 50 i0 (.agg #[.slice none 0 0, .slice none 0 0]) 2 48 Tryd.underlying51 hi hz0 hz1 hz2 rfl (by decide) u5 L.length (twCells L) (owns_below hin.row hb3') ⟨A2.heap.size, 0, none⟩ 1 1 [.slice a1 kids.len c1, .slice a2 kids'.len c2] rfl (new_two A2 _ _ _) (by intro u hu; simp at hu; rcases hu with rfl | rfl <;> rfl) (by unfold maxLen; omega) (by omega) (by have := hb3'.size; omega)
                  simp [go_sem] at hrun
                  obtain ⟨hnx, hmx⟩ := hin.next hd hd' eS ho hkn hb3' r1 r2 r3
                  go_wp2
                  exact ⟨⟨k + 1, _, _, by omega, by go_num, hnx, by rw [hmx]; exact hmsz⟩, by simp [intOf]; omega⟩
                · have hRf : R = false := by
                    rw [hin.val, eqF_step hd hd']
                    simp [eqX, hno]
                  by_cases k1 : kd1 = kd2
                  · have z3 : (kd1 != kd2) = false := by simpa using k1
                    by_cases k2 : sy1 = sy2
                    · have z4 : (sy1 != sy2) = false := by simpa using k2
                      have z5 : (n1 != n2) = true := by simp; exact fun e => hno ⟨k1, k2, e⟩
                      clear k1 k2 hno hd hd' hin ho hkn eS
                      go_wp2
                      go_ret
                      exact ⟨by rw [hRf]; rfl, hbA2⟩
                    · have z4 : (sy1 != sy2) = true := by simpa using k2
                      clear k1 k2 hno hd hd' hin ho hkn eS
                      go_wp2
                      go_ret
                      exact ⟨by rw [hRf]; rfl, hbA2⟩
                  · have z3 : (kd1 != kd2) = true := by simpa using k1
                    clear k1 hno hd hd' hin ho hkn eS
                    go_wp2
                    go_ret
                    exact ⟨by rw [hRf]; rfl, hbA2⟩
              · have hfin := hin.done hlt hle'.out
                have hle1 : es.size + 1 ≤ M := by simp at hms; omega
                have hlv : lenOf u5 = L.length := by
                  rcases hin.row.2 with ⟨h1, h2⟩ | ⟨_, _, _, h1, _⟩
                  · rw [h1, h2]; rfl
                  · rw [h1]; rfl
                have hcN : L.length ≤ N := by have := hfin.cnt; omega
                clear hin
                go_wp2
                exact ⟨⟨L, hfin⟩, by rw [hmsz, hesz, hlv]; exact measure_step hle1 hcN⟩
      · have hRf : R = false := by rw [hval]; simp [eqF_len hle]
        have z1 : ((t.F.len : Int) != (t.G.len : Int)) = true := by simp; omega
        clear hH
        go_wp2
        go_ret
        exact ⟨by rw [hRf]; rfl, hbw1⟩
theorem implExSame_any (kd sy n kd' sy' n' : Int) (b B : Nat) (S : List Nat) (F : Fo) (a' : Option Addr) (cap' : Nat) (F' : Fo) (w : World) (h : RowOwn w B b S F) (h' : Slc w a' F') (hs : F.size ≤ 1048576) :
    Calls Tryd.prog 14 #[.agg #[.int .i64 kd, .int .i64 sy, .int .i64 n, .slice (some ⟨b, 0, none⟩) F.len F.len], .agg #[.int .i64 kd', .int .i64 sy', .int .i64 n', .slice a' F'.len cap']] w
      fun e w' => e = .returned (.bool (eqX kd sy n F kd' sy' n' F')) ∧ Below w.heap.size w w' := by
  by_cases h0 : F.len = 0
  · exact implExSameAt_any kd sy n kd' sy' n' (some ⟨b, 0, none⟩) F.len [] F a' cap' F' w ⟨fun _ => rfl, fun hl => by omega⟩ List.nodup_nil h.len h' hs
  · exact implExSameAt_any kd sy n kd' sy' n' (some ⟨b, 0, none⟩) F.len (b :: S) F a' cap' F' w ⟨fun e => absurd e h0, fun _ => ⟨b, S, rfl, rfl, h.blk, h.own⟩⟩ h.apart h.len h' hs
end Go.Proofs.YtpokhhplgljmiaaDoor
