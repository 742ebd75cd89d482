/- What the specification reads at a place among words: one part with all its kids. -/
import Derived.Test.YtpkinlcinccccaaDoorExRd4
namespace Go.Proofs.YtpkinlcinccccaaDoor
open Go.ChangeShapes Go.WideShapes Go.ChangeAt Go.RowKit
set_option linter.unusedVariables false
set_option maxRecDepth 4000
theorem SlcBut.low {w w' : World} {lo : Nat} {g : Option Nat} {a : Option Addr} {F : Fo} (h : SlcBut w lo g a F) (hs : w'.heap.size = w.heap.size) (hb : ∀ b, lo ≤ b → w'.heap[b]? = w.heap[b]?) : SlcBut w' lo g a F :=
  fun v hv ha => h v (by omega) fun b h1 h2 h3 => (ha b h1 (by omega) h3).trans (hb b h1)
theorem SlcIn.low {w w' : World} {lo hi : Nat} {a : Option Addr} {F : Fo} (h : SlcIn w lo hi a F) (hs : w'.heap.size = w.heap.size) (hb : ∀ b, lo ≤ b → w'.heap[b]? = w.heap[b]?) : SlcIn w' lo hi a F :=
  fun v hv ha => h v (by omega) fun b h1 h2 => (ha b h1 h2).trans (hb b h1)
theorem SlcIn.mono {w : World} {lo lo' hi : Nat} {a : Option Addr} {F : Fo} (h : SlcIn w lo' hi a F) (hl : lo ≤ lo') : SlcIn w lo hi a F :=
  fun v hs ha => h v hs fun b h1 h2 => ha b (Nat.le_trans hl h1) h2
theorem SlcIn.below {w w' : World} {lo : Nat} {a : Option Addr} {F : Fo} (h : SlcIn w lo w.heap.size a F) (hb : Below w.heap.size w w') : SlcIn w' lo w'.heap.size a F :=
  fun v hs ha => h v (Nat.le_trans hb.size hs) fun b h1 h2 => (ha b h1 (Nat.lt_of_lt_of_le h2 hb.size)).trans (hb.block b h2)
/-- A box of one with kids. -/
structure PBox (w : World) (b : Nat) (kd sy n : Int) (v : Value) : Prop where
  row : w.heap[b]? = some (.cells #[.int .i64 kd, .int .i64 sy, .int .i64 n, v] 29 (0, 0))
theorem PBox.lt {w : World} {b : Nat} {kd sy n : Int} {v : Value} (h : PBox w b kd sy n v) : b < w.heap.size := (Array.getElem?_eq_some_iff.1 h.row).1
theorem PBox.below {w w' : World} {b : Nat} {kd sy n : Int} {v : Value} (h : PBox w b kd sy n v) (hb : Below w.heap.size w w') : PBox w' b kd sy n v := ⟨(hb.block b h.lt).trans h.row⟩
theorem PBox.cells {w : World} {b : Nat} {kd sy n : Int} {v : Value} (h : PBox w b kd sy n v) : w.cell? ⟨b, 0, none⟩ = some (.int .i64 kd) ∧ w.cell? ⟨b, 1, none⟩ = some (.int .i64 sy) ∧ w.cell? ⟨b, 2, none⟩ = some (.int .i64 n) ∧ w.cell? ⟨b, 3, none⟩ = some v :=
  ⟨cell_at h.row 0, cell_at h.row 1, cell_at h.row 2, cell_at h.row 3⟩
theorem PBox.free {w : World} {b : Nat} {kd sy n : Int} {v : Value} (h : PBox w b kd sy n v) (i : Nat) : w.frozen? ⟨b, i, none⟩ = false := Lib.frozen_of_heap h.row i
theorem PBox.grown {w w' : World} {b : Nat} {kd sy n : Int} {v : Value} {g : Option Nat} (h : PBox w b kd sy n v) (hg : w.grownBy w' g) (hn : g ≠ some b) : PBox w' b kd sy n v := ⟨(hg.5 b h.lt (fun e => hn e.symm)).trans h.row⟩
theorem PBox.other {w : World} {b : Nat} {kd sy n : Int} {v : Value} (h : PBox w b kd sy n v) (b' i : Nat) (hb : b ≠ b') (u : Value) : PBox (w.setCell ⟨b', i, none⟩ u) b kd sy n v := ⟨(Below.heap_setCell _ _ _ _ hb).trans h.row⟩
theorem PBox.put {w : World} {b : Nat} {kd sy n : Int} {v : Value} (h : PBox w b kd sy n v) (u : Value) : PBox (w.setCell ⟨b, 3, none⟩ u) b kd sy n u := ⟨heap_setCell_same _ _ _ _ _ _ h.row⟩
theorem PBox.store {w : World} {b : Nat} {kd sy n : Int} {v : Value} (h : PBox w b kd sy n v) (kd' sy' n' : Int) (v' : Value) : PBox ((((w.setCell ⟨b, 0, none⟩ (.int .i64 kd')).setCell ⟨b, 1, none⟩ (.int .i64 sy')).setCell ⟨b, 2, none⟩ (.int .i64 n')).setCell ⟨b, 3, none⟩ v') b kd' sy' n' v' :=
  ⟨heap_setCell_same _ _ _ _ _ _ (heap_setCell_same _ _ _ _ _ _ (heap_setCell_same _ _ _ _ _ _ (heap_setCell_same _ _ _ _ _ _ h.row)))⟩
theorem store_low {w : World} {b lo : Nat} (hb : b < lo) (v0 v1 v2 v3 : Value) : ∀ x, lo ≤ x → ((((w.setCell ⟨b, 0, none⟩ v0).setCell ⟨b, 1, none⟩ v1).setCell ⟨b, 2, none⟩ v2).setCell ⟨b, 3, none⟩ v3).heap[x]? = w.heap[x]? := by
  intro x hx
  rw [Below.heap_setCell _ _ _ _ (by simp; omega), Below.heap_setCell _ _ _ _ (by simp; omega), Below.heap_setCell _ _ _ _ (by simp; omega), Below.heap_setCell _ _ _ _ (by simp; omega)]
theorem results_parse (tmps : Array Value) (w : World) (g : Nat) (kd sy n : Int) (v : Value) (hp : tmps.getD 6 undef = .pointer (some ⟨g, 0, none⟩)) (hg : PBox w g kd sy n v) :
    (results Tryd.f23 tmps).run Tryd.prog w = .ok (.tuple #[.agg #[.int .i64 kd, .int .i64 sy, .int .i64 n, v], tmps.getD 7 undef]) w := by
  rw [results_cell_tmp (p := 6) (u := 7) (ty := 29) rfl, hp]
  have hl := run_loadVar_row w g 29 29 _ (0, 0) _ hg.row Tryd.underlying29 rfl (by kernel_rfl)
  simp [asAddr, hl, Result.andThen]
def ParseIs (ps : List ByteArray) (d k : Nat) (kd sy n t : Int) (F : Fo) : Prop :=
  (scanK numF d 1 ((ps.map bs).drop k) = none ∧ t = -1) ∨ ∃ j : Nat, scanK numF d 1 ((ps.map bs).drop k) = some (.cons kd sy n F .nil, (ps.map bs).drop j) ∧ k < j ∧ j ≤ ps.length ∧ t = j
def ParsePost (ps : List ByteArray) (d k : Nat) (w : World) (e : Ending) (w' : World) : Prop :=
  ∃ (kd sy n t : Int) (a : Option Addr) (cap : Nat) (F : Fo), e = .returned (.tuple #[.agg #[.int .i64 kd, .int .i64 sy, .int .i64 n, .slice a F.len cap], .int .i64 t]) ∧ Below w.heap.size w w' ∧ SlcIn w' w.heap.size w'.heap.size a F ∧ Hid (ParseIs ps d k kd sy n t F)
theorem slice_own {w : World} {B : Nat} {e : TypeId} {z : Nat} {v : Value} {n : Nat} {xs : List Value} (h : w.ownsRow B e z v n xs) : ∃ a cap, v = .slice a n cap := by
  rcases h.2 with ⟨rfl, rfl⟩ | ⟨g, cap, cur, rfl, _⟩
  · exact ⟨none, 0, rfl⟩
  · exact ⟨_, _, rfl⟩
/-- How far the kids are read. -/
def KidsTo (ps : List ByteArray) (d K : Nat) (r0 : List Wd) (j m : Nat) (G : Fo) : Prop :=
  scanK numF d K r0 = (scanK numF d m ((ps.map bs).drop j)).map fun x => (G.app x.1, x.2)
theorem KidsTo.bad {ps : List ByteArray} {d K j m : Nat} {r0 : List Wd} {G : Fo} (h : KidsTo ps d K r0 j (m + 1) G) (hn : scanK numF d 1 ((ps.map bs).drop j) = none) : scanK numF d K r0 = none := by
  rw [h, scan_bad m hn]; rfl
theorem KidsTo.step {ps : List ByteArray} {d K j m j' : Nat} {r0 : List Wd} {G F : Fo} {kd sy n : Int} (h : KidsTo ps d K r0 j (m + 1) G) (hn : scanK numF d 1 ((ps.map bs).drop j) = some (.cons kd sy n F .nil, (ps.map bs).drop j')) : KidsTo ps d K r0 j' m (G.app (.cons kd sy n F .nil)) := by
  unfold KidsTo at h ⊢
  rw [h, scan_one m hn, Option.map_map]
  congr 1
  funext x
  simp only [Function.comp, Fo.app_app]
  rfl
theorem KidsTo.done {ps : List ByteArray} {d K j : Nat} {r0 : List Wd} {G : Fo} (h : KidsTo ps d K r0 j 0 G) : scanK numF d K r0 = some (G, (ps.map bs).drop j) := by
  rw [h, scanK_zero]
  simp [Fo.app_nil]
theorem kids_range {kd : Int} (h : 1 ≤ kd ∧ kd ≤ 7) : 0 ≤ kidsOf kd ∧ kidsOf kd ≤ 3 := by
  have cs : kd = 1 ∨ kd = 2 ∨ kd = 3 ∨ kd = 4 ∨ kd = 5 ∨ kd = 6 ∨ kd = 7 := by omega
  rcases cs with rfl | rfl | rfl | rfl | rfl | rfl | rfl <;> decide
theorem parse_none {ps : List ByteArray} {k : Nat} (d : Nat) (h : ps.length ≤ k) : scanK numF d 1 ((ps.map bs).drop k) = none := by
  rw [List.drop_eq_nil_of_le (by rw [List.length_map]; exact h)]
  cases d with
  | zero => exact scanK_deep _ _ _
  | succ d => exact scanK_none rfl
set_option maxHeartbeats 4000000 in
theorem parse_not (ps : List ByteArray) (g cap d k : Nat) (w : World) (h : ps.length ≤ k ∨ d = 0) (hlen : ps.length ≤ 1000) :
    Calls Tryd.prog 23 #[.slice (some ⟨g, 0, none⟩) ps.length cap, .int .i64 k, .int .i64 d] w (ParsePost ps d k w) := by
  have hb0 := below_new w (.cells #[.int .i64 0, .int .i64 0, .int .i64 0, .slice none 0 0] 29)
  have hx0 : PBox (w.alloc (.cells #[.int .i64 0, .int .i64 0, .int .i64 0, .slice none 0 0] 29)) w.heap.size 0 0 0 (.slice none 0 0) := ⟨heap_alloc_new _ _⟩
  have hN : scanK numF d 1 ((ps.map bs).drop k) = none := by
    rcases h with h | rfl
    · exact parse_none d h
    · exact scanK_deep _ _ _
  have HN : Hid (scanK numF d 1 ((ps.map bs).drop k) = none) := hN
  clear hN
  have hfin : ParsePost ps d k w (.returned (.tuple #[.agg #[.int .i64 0, .int .i64 0, .int .i64 0, .slice none 0 0], .int .i64 (-1)])) (w.alloc (.cells #[.int .i64 0, .int .i64 0, .int .i64 0, .slice none 0 0] 29)) :=
    ⟨0, 0, 0, -1, none, 0, .nil, rfl, hb0, SlcIn.nil _ _ _ _, Or.inl ⟨HN.out, rfl⟩⟩
  by_cases hge : (ps.length : Int) ≤ (k : Int)
  · go_enter Tryd.func23, Tryd.ntmps23
    go_wp2
    exact bodyPost_ret (results_parse _ _ w.heap.size 0 0 0 _ rfl hx0) rfl hfin
  · have hd : d = 0 := by omega
    subst hd
    go_enter Tryd.func23, Tryd.ntmps23
    go_wp2
    exact bodyPost_ret (results_parse _ _ w.heap.size 0 0 0 _ rfl hx0) rfl hfin
/-- An append whose run is known, as a walk meets it. -/
theorem xwpList_append_run {P : Program} {w : World} {ops : Array Oper} {rest : List Oper} {o : Oper} {a : Act} {Q : Exit → Act → World → Prop} (hgd : o.guard = none) (s x : Operand) (t : TypeId)
    (ho : o.op = .call { callee := .builtin .append, args := #[s, x], argTypes := #[t, t] }) (vs vx : Value) (hs : a.eval s = vs) (hx : a.eval x = vx) {v' : Value} {w' : World}
    (hr : (Builtin.append_ #[t, t] o.type #[vs, vx]).run P w = .ok v' w') (h : wpList P ops Q rest (a.put o.dst v') w') : wpList P ops Q (o :: rest) a w := by
  refine wpList_plain hgd fun _ hK => ?_
  unfold Oper.wp execOp
  simp only [ho, resolve, invoke, builtin, Sem.run_bind, Sem.run_pure, Result.andThen_ok, List.map_toArray, List.map_cons, List.map_nil, hs, hx, hr]
  exact hK _ _ h

def sliceLen : Value → Nat
  | .slice _ n _ => n
  | _ => 0
set_option maxHeartbeats 4000000 in
theorem specParse_any (ps : List ByteArray) (g cap : Nat) (hlen : ps.length ≤ 1000) (hsz : ∀ p ∈ ps, p.size ≤ 1048576) : ∀ (d : Nat), d ≤ 5 → ∀ (k : Nat) (w : World), Pieces w g ps → k ≤ ps.length →
    Calls Tryd.prog 23 #[.slice (some ⟨g, 0, none⟩) ps.length cap, .int .i64 k, .int .i64 d] w (ParsePost ps d k w) := by
  intro d
  induction d with
  | zero => exact fun _ k w _ _ => parse_not ps g cap 0 k w (Or.inr rfl) hlen
  | succ d ih =>
    intro hd k w hp hk
    by_cases hge : ps.length ≤ k
    · exact parse_not ps g cap (d + 1) k w (Or.inl hge) hlen
    have hlt : ¬ (ps.length : Int) ≤ (k : Int) := by omega
    obtain ⟨D, hD⟩ : ∃ D : Int, ((d + 1 : Nat) : Int) = D := ⟨_, rfl⟩
    rw [hD]
    have hD1 : D - 1 = (d : Int) := by omega
    have hD2 : ¬ D < 1 := by omega
    clear hD
    obtain ⟨i0, hi, hz0, hz1, hz2⟩ := info_ex_parts
    have hb0 := below_new w (.cells #[.int .i64 0, .int .i64 0, .int .i64 0, .slice none 0 0] 29)
    have hx0 : PBox (w.alloc (.cells #[.int .i64 0, .int .i64 0, .int .i64 0, .slice none 0 0] 29)) w.heap.size 0 0 0 (.slice none 0 0) := ⟨heap_alloc_new _ _⟩
    go_enter Tryd.func23, Tryd.ntmps23
    go_wp2_with fail
    refine (specHead_any ps g cap k _ (hp.below hb0) (by omega) hlen hsz).mono ?_
    rintro e w1 ⟨kd, sy, n, t, rfl, hb1, hH⟩
    have hx1 := hx0.below hb1
    have b01 := hb0.trans (hb1.mono hb0.size)
    rcases hH.out with ⟨hn, rfl⟩ | ⟨j, hr, hkj, hj, rfl⟩
    · have HN : Hid (scanK numF (d + 1) 1 ((ps.map bs).drop k) = none) := scanK_none hn
      clear hn hH
      have ha : PBox (w1.alloc (.cells #[.int .i64 kd, .int .i64 sy, .int .i64 n, .slice none 0 0] 29)) w1.heap.size kd sy n (.slice none 0 0) := ⟨heap_alloc_new _ _⟩
      have hb2 := below_new w1 (.cells #[.int .i64 kd, .int .i64 sy, .int .i64 n, .slice none 0 0] 29)
      have hx2 := hx1.below hb2
      have b02 := b01.trans (hb2.mono b01.size)
      obtain ⟨y0, y1, y2, y3⟩ := ha.cells
      obtain ⟨z0, z1, z2, z3⟩ := hx2.cells
      have f0 := hx2.free 0
      have f1 := hx2.free 1
      have f2 := hx2.free 2
      have f3 := hx2.free 3
      go_wp2
      exact bodyPost_ret (results_parse _ _ w.heap.size kd sy n _ rfl (hx2.store kd sy n _)) rfl ⟨kd, sy, n, -1, none, 0, .nil, rfl, below_store b02 (Nat.le_refl _) _ _ _ _, SlcIn.nil _ _ _ _, Or.inl ⟨HN.out, rfl⟩⟩
    · have hkd : 1 ≤ kd ∧ kd ≤ 7 := by have := head_sound hr; exact ⟨this.1, this.2.1⟩
      have hkr := kids_range hkd
      have HR : Hid (headR numF ((ps.map bs).drop k) = some (kd, sy, n, (ps.map bs).drop j)) := hr
      have hjp : ¬ (j : Int) < 0 := by omega
      have hjd : decide ((j : Int) < 0) = false := by simp
      obtain ⟨K, hK⟩ : ∃ K : Nat, kidsOf kd = K := ⟨(kidsOf kd).toNat, by omega⟩
      have hKc := fun w => specKids_any kd w
      rw [hK] at hKc
      have HK : Hid (kidsOf kd = K) := hK
      have hK3 : K ≤ 3 := by omega
      clear hr hH hkr hK
      have ha : PBox (w1.alloc (.cells #[.int .i64 kd, .int .i64 sy, .int .i64 n, .slice none 0 0] 29)) w1.heap.size kd sy n (.slice none 0 0) := ⟨heap_alloc_new _ _⟩
      have hb2 := below_new w1 (.cells #[.int .i64 kd, .int .i64 sy, .int .i64 n, .slice none 0 0] 29)
      have hx2 := hx1.below hb2
      have b02 := b01.trans (hb2.mono b01.size)
      obtain ⟨y0, y1, y2, y3⟩ := ha.cells
      go_wp2_with fail
      refine (hKc _).mono ?_
      rintro e w2 ⟨rfl, rfl⟩
      go_wp2_with fail
      have hB1 := hx1.lt
      go_loopw [9, 10, 11, 12] (fun nx cn p bh wr => ∃ (j' m : Nat) (q : List Hd) (G : Fo) (v : Value), nx = .int .i64 j' ∧ cn = .int .i64 m ∧ k < j' ∧ j' ≤ ps.length ∧ q.length + m ≤ 3 ∧ PBox wr w1.heap.size kd sy n v ∧ PBox wr w.heap.size 0 0 0 (.slice none 0 0) ∧ wr.ownsRow (w1.heap.size + 1) 29 4 v q.length (hdCells q) ∧ Hid (Heads (SlcBut wr (w1.heap.size + 1) v.ownBlock) q G) ∧ Hid (KidsTo ps d K ((ps.map bs).drop j) j' m G) ∧ Below w.heap.size w wr) (fun _ cn _ _ _ => (intOf cn).toNat)
      case atStart => exact ⟨j, K, [], .nil, .slice none 0 0, rfl, rfl, hkj, hj, by simpa using hK3, ha, hx2, World.ownsRow_nil _ _ _ _, trivial, by show KidsTo _ _ _ _ _ _ _; unfold KidsTo; simp [Fo.app], b02⟩
      case round =>
        obtain ⟨j', m, q, G, v, rfl, rfl, hkj', hj', hqm, hX, hR, hown, hHd, hTo, hb⟩ := hrel
        have hXl := hX.lt
        by_cases hm : 0 < m
        · have hm' : (0 : Int) < (m : Int) := by omega
          have hcall := ih (by omega) j' wr ((hp.below hb)) hj'
          clear ih
          go_wp2_with fail
          refine hcall.mono ?_
          rintro e w3 ⟨kd', sy', n', t, a', cap', F', rfl, hb3, hS3, hP⟩
          obtain ⟨m, rfl⟩ : ∃ m', m = m' + 1 := ⟨m - 1, by omega⟩
          have hX3 := hX.below hb3
          have hR3 := hR.below hb3
          have b3 := hb.trans (hb3.mono hb.size)
          obtain ⟨wk, hwk⟩ : ∃ wk, w3.alloc (.cells #[.int .i64 kd', .int .i64 sy', .int .i64 n', .slice a' F'.len cap'] 29) = wk := ⟨_, rfl⟩
          have hbk : Below w3.heap.size w3 wk := by rw [← hwk]; exact below_new _ _
          have hka : PBox wk w3.heap.size kd' sy' n' (.slice a' F'.len cap') := by rw [← hwk]; exact ⟨heap_alloc_new _ _⟩
          have hXk := hX3.below hbk
          have hRk := hR3.below hbk
          have bk := b3.trans (hbk.mono b3.size)
          obtain ⟨x0, x1, x2, x3⟩ := hXk.cells
          obtain ⟨z0, z1, z2, z3⟩ := hRk.cells
          obtain ⟨c0, c1, c2, c3⟩ := hka.cells
          rcases hP.out with ⟨hn, rfl⟩ | ⟨j2, hs, hjj, hj2, rfl⟩
          · obtain ⟨va, vc, rfl⟩ := slice_own hown
            have HN : Hid (scanK numF (d + 1) 1 ((ps.map bs).drop k) = none) := by
              show _ = _
              rw [scanK_some HR.out, HK.out, Int.toNat_natCast, hTo.out.bad hn]
            clear hn hP hTo
            have f0 := hRk.free 0
            have f1 := hRk.free 1
            have f2 := hRk.free 2
            have f3 := hRk.free 3
            have hF := slc_row hown hHd.out (by unfold maxLen; omega)
            have hGl : Hid (q.length = G.len) := hHd.out.len q G
            go_wp2
            refine bodyPost_ret (results_parse _ _ w.heap.size kd sy n _ rfl (hRk.store kd sy n _)) rfl ⟨kd, sy, n, -1, va, vc, G, by rw [← hGl.out]; rfl, below_store bk (Nat.le_refl _) _ _ _ _, ?_, Or.inl ⟨HN.out, rfl⟩⟩
            have := (((hF.below hb3).below hbk).low (by simp) (store_low (w := wk) (b := w.heap.size) (by omega) (.int .i64 kd) (.int .i64 sy) (.int .i64 n) (.slice va q.length vc))).mono (lo := w.heap.size) (by omega)
            simpa using this
          · have hj2p : ¬ (j2 : Int) < 0 := by omega
            have hTo' : Hid (KidsTo ps d K ((ps.map bs).drop j) j2 m (G.app (.cons kd' sy' n' F' .nil))) := hTo.out.step hs
            clear hs hP hTo
            obtain ⟨w5, hw5⟩ : ∃ w5, wk.alloc (.cells #[.int .i64 kd', .int .i64 sy', .int .i64 n', .slice a' F'.len cap'] 29) = w5 := ⟨_, rfl⟩
            have hb5 : Below wk.heap.size wk w5 := by rw [← hw5]; exact below_new _ _
            have hn5 : w5.heap[wk.heap.size]? = some (.cells #[.int .i64 kd', .int .i64 sy', .int .i64 n', .slice a' F'.len cap'] 29 (0, 0)) := by rw [← hw5]; exact heap_alloc_new _ _
            have b35 : Below wr.heap.size wr w5 := (hb3.trans (hbk.mono hb3.size)).trans (hb5.mono (Nat.le_trans hb3.size hbk.size))
            have hown5 := owns_below hown b35
            have hs35 := b35.size
            have hs5 := hb5.size
            obtain ⟨v', w6, hrun, r1, r2, r3⟩ := append_where (P := Tryd.prog) w5 (w1.heap.size + 1) 27 27 29 i0 (.agg #[.int .i64 0, .int .i64 0, .int .i64 0, .slice none 0 0]) 4 48 Tryd.underlying27 hi hz0 hz1 hz2 rfl (by decide) v q.length (hdCells q) hown5 ⟨wk.heap.size, 0, none⟩ 1 1 [.int .i64 kd', .int .i64 sy', .int .i64 n', .slice a' F'.len cap'] rfl
              (by intro j x hj; rw [add_plain, cell_at hn5]; simpa using hj)
              (by intro x hx; simp at hx; rcases hx with rfl | rfl | rfl | rfl <;> rfl) (by unfold maxLen; omega) (by omega) (by omega)
            obtain ⟨gv, cv, rfl⟩ := ownsRow_succ r1
            have hX5 := hXk.below hb5
            have hR5 := hRk.below hb5
            have hX6 : PBox w6 w1.heap.size kd sy n v := hX5.grown r2 (fun e => by have := (hown5.lt _ e).1; omega)
            have hR6 : PBox w6 w.heap.size 0 0 0 (.slice none 0 0) := hR5.grown r2 (fun e => by have := (hown5.lt _ e).1; omega)
            obtain ⟨e0, e1, e2, e3⟩ := hX6.cells
            have g3 := hX6.free 3
            obtain ⟨k0, k1, k2, k3⟩ := hX5.cells
            go_wp2_with (at_builtin; refine xwpList_append_run rfl _ _ 27 rfl _ _ rfl rfl hrun ?_)
            have hX7 := hX6.put (.slice (some ⟨gv, 0, none⟩) (q.length + 1) cv)
            have hR7 := hR6.other w1.heap.size 3 (by omega) (.slice (some ⟨gv, 0, none⟩) (q.length + 1) cv)
            have hg7 : w6.grownBy (w6.setCell ⟨w1.heap.size, 3, none⟩ (.slice (some ⟨gv, 0, none⟩) (q.length + 1) cv)) (some w1.heap.size) := ⟨rfl, rfl, rfl, by simp, fun b _ hb => Below.heap_setCell _ _ _ _ (fun e => hb (by rw [e]))⟩
            have hl7 : ∀ b, w1.heap.size + 1 ≤ b → (w6.setCell ⟨w1.heap.size, 3, none⟩ (.slice (some ⟨gv, 0, none⟩) (q.length + 1) cv)).heap[b]? = w6.heap[b]? := fun b hb => Below.heap_setCell _ _ _ _ (by simp; omega)
            have hown7 := r1.kept hg7 (.inr fun e => by have := (r1.lt _ e).1; omega)
            refine ⟨⟨j2, m, q ++ [⟨kd', sy', n', a', F'.len, cap'⟩], G.app (.cons kd' sy' n' F' .nil), .slice (some ⟨gv, 0, none⟩) (q.length + 1) cv, rfl, by go_num, by omega, hj2, by simp; omega, hX7, hR7, ?_, ?_, hTo', ?_⟩, by simp [intOf]⟩
            · rw [hdCells_snoc, List.length_append]; exact hown7
            · have hlt5 : ∀ x, v.ownBlock = some x → x < wr.heap.size := fun x hx => (hown.lt x hx).2
              refine Heads.snoc (P := SlcBut _ _ _) ⟨kd', sy', n', a', F'.len, cap'⟩ F' rfl ?_ q G (hHd.out.mono (fun a k h => ((h.below b35).grown r2 r3).low (by simp) hl7) q G)
              exact ((((hS3.but (lo := w1.heap.size + 1) (g := v.ownBlock) (by omega) hlt5).below hbk).below hb5).grown r2 r3).low (by simp) hl7
            · exact ((bk.trans (hb5.mono bk.size)).grown r2 (by omega) (fun x hx => by have := (hown.lt x hx).1; omega)).setCell (by simp; omega) _
        · obtain rfl : m = 0 := by omega
          obtain ⟨va, vc, rfl⟩ := slice_own hown
          obtain ⟨x0, x1, x2, x3⟩ := hX.cells
          obtain ⟨z0, z1, z2, z3⟩ := hR.cells
          have f0 := hR.free 0
          have f1 := hR.free 1
          have f2 := hR.free 2
          have f3 := hR.free 3
          have hF := slc_row hown hHd.out (by unfold maxLen; omega)
          have HS : Hid (scanK numF (d + 1) 1 ((ps.map bs).drop k) = some (.cons kd sy n G .nil, (ps.map bs).drop j')) := by
            show _ = _
            rw [scanK_some HR.out, HK.out, Int.toNat_natCast]
            simp only [hTo.out.done, scanK_zero]
          have hGl : Hid (q.length = G.len) := hHd.out.len q G
          go_wp2
          refine bodyPost_ret (results_parse _ _ w.heap.size kd sy n _ rfl (hR.store kd sy n _)) rfl ⟨kd, sy, n, j', va, vc, G, by rw [← hGl.out]; rfl, below_store hb (Nat.le_refl _) _ _ _ _, ?_, Or.inr ⟨j', HS.out, hkj', hj', rfl⟩⟩
          have := (hF.low (by simp) (store_low (w := wr) (b := w.heap.size) (by omega) (.int .i64 kd) (.int .i64 sy) (.int .i64 n) (.slice va q.length vc))).mono (lo := w.heap.size) (by omega)
          simpa using this
end Go.Proofs.YtpkinlcinccccaaDoor
