/- Whatever is drawn to have happened: the program's EvsOk and EvsSame answer as the specification's; what is ok is not with something at the same time, with a number or a letter that is none, or with more than there may be. -/
import Derived.Test.YtjahlelgdlbobaaDrawE4
import Derived.Test.YtjahlelgdlbobaaEvs3
import Derived.ArgAppend
import Derived.Laws.OwnMore
import Derived.Deep.CutRange
import Derived.Deep.DeepCutAuto
import Derived.Maps.AppendAt
namespace Go.Proofs.Ytjahlelgdlbobaa.fnEvBent
open Go.ChangeShapes Go.WideShapes Go.ChangeAt Go.RowKit
set_option linter.unusedVariables false
set_option maxRecDepth 4000
theorem okFrom_cons {la : Int} {e : Ev} {r : List Ev} (h : okFrom la (e :: r) = true) : evOkB e.sym e.at' e.val = true ∧ la < e.at' ∧ okFrom e.at' r = true := by
  simp only [okFrom, Bool.and_eq_true, decide_eq_true_eq] at h
  exact ⟨h.1.1, h.1.2, h.2⟩
theorem ok_each : ∀ {la : Int} {l : List Ev}, okFrom la l = true → ∀ x ∈ l, 1 ≤ x.at' ∧ x.at' ≤ 1000
  | la, e :: r, h, x, hx => by
    obtain ⟨h1, _, h3⟩ := okFrom_cons h
    rcases List.mem_cons.1 hx with rfl | hx
    · simp only [evOkB, decide_eq_true_eq] at h1
      omega
    · exact ok_each h3 x hx
theorem ok_tail {l : List Ev} (h : evsOkB l = true) : evsOkB (l.drop 1) = true := by
  cases l with
  | nil => rfl
  | cons e r =>
    simp only [evsOkB, Bool.and_eq_true, decide_eq_true_eq, List.length_cons] at h
    obtain ⟨h1, h2, h3⟩ := okFrom_cons h.2
    have hpos : 1 ≤ e.at' := (ok_each h.2 e (by simp)).1
    show evsOkB r = true
    simp only [evsOkB, Bool.and_eq_true, decide_eq_true_eq]
    refine ⟨by omega, ?_⟩
    cases r with
    | nil => rfl
    | cons e' r' =>
      obtain ⟨k1, k2, k3⟩ := okFrom_cons h3
      simp only [okFrom, Bool.and_eq_true, decide_eq_true_eq]
      exact ⟨⟨k1, by omega⟩, k3⟩
theorem bad_long {l : List Ev} (h : 24 < l.length) : evsOkB l = false := by
  simp only [evsOkB, Bool.and_eq_false_iff]
  exact Or.inl (decide_eq_false (by omega))
theorem bad_head {l : List Ev} {e : Ev} (hl : 0 < l.length) (h : evOkB e.sym e.at' e.val = false) : evsOkB (l.set 0 e) = false := by
  cases l with
  | nil => simp at hl
  | cons x r => simp [evsOkB, okFrom, h]
/-- An append to an owned row: where the new row lies. -/
theorem eAppend_where {P : Program} (w : World) (base : Nat) (t ty e : TypeId) (i : TypeInfo) (z : Value) (size bytes : Nat) (ht : P.underlying t = some (.slice e)) (hi : P.info? e = some i) (hz : i.zero = some z)
    (hsize : i.size = size) (hby : i.bytes = bytes) (hzs : z.cells.size = size) (hsz : 0 < size)
    (v : Value) (n : Nat) (xs : List Value) (hown : w.ownsRow base e size v n xs)
    (a : Addr) (m c : Nat) (news : List Value) (hl : news.length = m * size) (hnews : ∀ j u, news[j]? = some u → w.cell? (a.add j) = some u) (h1 : ∀ u ∈ news, u.oneCell' = true)
    (h63 : n + m ≤ maxLen) (hbytes : (n + m) * bytes ≤ 140737488355328) (hbase : base ≤ w.heap.size) :
    ∃ v' w', (Builtin.append_ #[t, t] ty #[v, .slice (some a) m c]).run P w = .ok v' w' ∧ w'.ownsRow base e size v' (n + m) (xs ++ news) ∧ w.grownBy w' v.ownBlock ∧ ∀ k, v'.ownBlock = some k → v.ownBlock = some k ∨ w.heap.size ≤ k := by
  rcases hown.2 with ⟨rfl, rfl⟩ | ⟨g, cap, cur, rfl, hb, hg, hn, hcm, hcs, htk⟩
  · obtain rfl : xs = [] := List.eq_nil_of_length_eq_zero (by simpa using hown.1)
    obtain ⟨v', w', r, r1, r2, _⟩ := run_append_own (P := P) w w.heap.size t ty e i z size bytes ht hi hz hsize hby hzs hsz (.slice none 0 0) 0 [] (World.ownsRow_nil _ _ _ _) a m c news hl hnews h1 h63 hbytes (Nat.le_refl _)
    exact ⟨v', w', r, r1.mono hbase, r2, fun k hk => .inr (r1.lt k hk).1⟩
  · by_cases hr : cap < n + m
    · have hcell : ∀ j u, xs[j]? = some u → w.cell? ((⟨g, 0, none⟩ : Addr).add j) = some u := by
        intro j u hj
        have hjl : j < n * size := by rw [← hown.1]; exact (List.getElem?_eq_some_iff.1 hj).1
        rw [← htk, List.getElem?_take, if_pos hjl] at hj
        rw [add_plain]
        simp only [Nat.zero_add]
        rw [oCellD hg]
        rwa [Array.getElem?_toList] at hj
      obtain ⟨v', w', r, r1, r2⟩ := run_append_arg_grows (P := P) w t ty e i z size bytes ht hi hz hsize hby hzs hsz ⟨g, 0, none⟩ n cap xs hown.1 hcell a m c news hl hnews hr h63 hbytes
      exact ⟨v', w', r, r1.mono hbase, ⟨r2.1, r2.2, r2.3, r2.4, fun k h _ => r2.5 k h (by simp)⟩, fun k hk => .inr (r1.lt k hk).1⟩
    · obtain ⟨w', r, r1, r2⟩ := run_append_fits (P := P) w base t ty e i size ht hi hsize g n cap xs hown a m c news hl hnews h1 (by omega)
      exact ⟨_, w', r, r1, r2, fun k hk => .inl hk⟩
theorem ewpList_append_run {P : Program} {w : World} {ops : Array Oper} {rest : List Oper} {o : Oper} {a : Act} {Q : Exit → Act → World → Prop} (hgd : o.guard = none) (s x : Operand) (t : TypeId)
    (ho : o.op = .call { callee := .builtin .append, args := #[s, x], argTypes := #[t, t] }) (vs vx : Value) (hs : a.eval s = vs) (hx : a.eval x = vx) {v' : Value} {w' : World}
    (hr : (Builtin.append_ #[t, t] o.type #[vs, vx]).run P w = .ok v' w') (h : wpList P ops Q rest (a.put o.dst v') w') : wpList P ops Q (o :: rest) a w := by
  refine wpList_plain hgd fun _ hK => ?_
  unfold Oper.wp execOp
  simp only [ho, resolve, invoke, builtin, Sem.run_bind, Sem.run_pure, Result.andThen_ok, List.map_toArray, List.map_cons, List.map_nil, hs, hx, hr]
  exact hK _ _ h
/-- A copy of a list: an append to a row without room. -/
theorem copy_run (w : World) {ax : Option Addr} {cx : Nat} {l : List Ev} (hE : Evs w ax l) (h1 : 0 < l.length) (h2 : l.length ≤ 100) :
    ∃ g c w', (Builtin.append_ #[23, 23] 23 #[.slice (some ⟨w.heap.size, 0, none⟩) 0 0, .slice ax l.length cx]).run Try.prog (w.alloc (.cells #[] 30)) = .ok (.slice (some ⟨g, 0, none⟩) l.length c) w' ∧ w'.ownsRow (w.heap.size + 1) 30 3 (.slice (some ⟨g, 0, none⟩) l.length c) l.length (evCells l) ∧ Below w.heap.size w w' := by
  obtain ⟨i0, hi, hz0, hz1, hz2⟩ := info_ev_parts
  have hb := eBelow_new w (.cells #[] 30)
  obtain ⟨b, off, rfl, hlt, hc⟩ := (hE.below hb).cells h1
  have hcell : ∀ j u, (evCells l)[j]? = some u → (w.alloc (.cells #[] 30)).cell? ((⟨b, off, none⟩ : Addr).add j) = some u := by
    intro j u hj
    have hjl : j < l.length * 3 := by rw [← evCells_length]; exact (List.getElem?_eq_some_iff.1 hj).1
    rw [add_plain]
    obtain ⟨k0, k1, k2⟩ := hc (j / 3) (by omega)
    obtain ⟨e0, e1, e2⟩ := evCells_get l (j / 3) (by omega)
    have h3 : j % 3 = 0 ∨ j % 3 = 1 ∨ j % 3 = 2 := by omega
    rcases h3 with h3 | h3 | h3
    · have ej : j = j / 3 * 3 := by omega
      rw [ej, e0] at hj
      rw [ej, k0]; exact hj
    · have ej : j = j / 3 * 3 + 1 := by omega
      rw [ej, e1] at hj
      rw [ej, ← Nat.add_assoc, k1]; exact hj
    · have ej : j = j / 3 * 3 + 2 := by omega
      rw [ej, e2] at hj
      rw [ej, ← Nat.add_assoc, k2]; exact hj
  obtain ⟨v', w', r, r1, r2⟩ := run_append_arg_grows (P := Try.prog) (w.alloc (.cells #[] 30)) 23 23 30 i0 (.agg #[.int .i64 0, .int .i64 0, .int .i64 0]) 3 24 Try.underlying23 hi hz0 hz1 hz2 rfl (by decide) ⟨w.heap.size, 0, none⟩ 0 0 [] rfl (by intro j u hj; simp at hj) ⟨b, off, none⟩ l.length cx (evCells l) (evCells_length l) hcell (by omega) (by unfold maxLen; omega) (by omega)
  have r1' : w'.ownsRow (w.heap.size + 1) 30 3 v' l.length (evCells l) := by simpa using r1
  obtain ⟨g, c, rfl⟩ : ∃ g c, v' = .slice (some ⟨g, 0, none⟩) l.length c := by
    rcases r1'.2 with ⟨_, e⟩ | ⟨g, c, cur, e, _⟩
    · omega
    · exact ⟨g, c, e⟩
  refine ⟨g, c, w', r, r1', hb.trans ?_⟩
  exact ⟨r2.1, r2.2, r2.3, r2.4, fun k hk => r2.5 k (by simp; omega) (by simp)⟩
structure Stay (p : Prop) : Prop where
  intro :: (out : p)
theorem grown_part {w w' w'' : World} {g : Nat} {r : Option Nat} (h : w.grownBy w' (some g)) (k : w'.grownBy w'' r) (hr : ∀ x, r = some x → x = g ∨ w.heap.size ≤ x) : w.grownBy w'' (some g) := by
  refine ⟨k.1.trans h.1, k.2.trans h.2, k.3.trans h.3, Nat.le_trans h.4 k.4, fun b hb hn => ?_⟩
  rw [k.5 b (Nat.lt_of_lt_of_le hb h.4) (fun e => ?_)]
  · exact h.5 b hb hn
  · rcases hr b e.symm with e | e
    · exact hn (by rw [e])
    · omega
theorem evs_drop {w : World} {b o : Nat} {l : List Ev} (h : Evs w (some ⟨b, o, none⟩) l) (k : Nat) (hk : k ≤ l.length) : Evs w (some ⟨b, o + k * 3, none⟩) (l.drop k) := by
  refine ⟨by have := h.len; simp; omega, fun hl => ?_⟩
  have hl' : 0 < l.length - k := by simpa using hl
  obtain ⟨b', o', e, hlt, hc⟩ := h.cells (by omega)
  cases e
  refine ⟨b, o + k * 3, rfl, hlt, fun i hi => ?_⟩
  have hi' : i < l.length - k := by simpa using hi
  have := hc (k + i) (by omega)
  simp only [List.getElem_drop]
  rw [show o + k * 3 + i * 3 = o + (k + i) * 3 by omega]
  exact this
theorem own_slice {w : World} {B z : Nat} {t : TypeId} {v : Value} {n : Nat} {xs : List Value} (h : w.ownsRow B t z v n xs) (hn : 0 < n) : ∃ g c, v = .slice (some ⟨g, 0, none⟩) n c := by
  rcases h.2 with ⟨_, e⟩ | ⟨g, c, cur, e, _⟩
  · omega
  · exact ⟨g, c, e⟩
theorem chain1 {w w' : World} {o : Obj} (h : Below (w.drew.alloc o).heap.size (w.drew.alloc o) w') : Below w.heap.size w w' :=
  ((Below.refl w.heap.size w).drew.alloc (Nat.le_refl _) o).trans (h.mono (by simp))
theorem chain2 {w w' : World} {o o' : Obj} (h : Below ((w.drew.alloc o).alloc o').heap.size ((w.drew.alloc o).alloc o') w') : Below w.heap.size w w' :=
  (((Below.refl w.heap.size w).drew.alloc (Nat.le_refl _) o).alloc (by simp) o').trans (h.mono (by simp; omega))
set_option maxHeartbeats 4000000 in
theorem walk (a0 : Option Addr) (cap0 : Nat) (c0 : List Int) (w : World) (h0 : Bytes w a0 c0 ∧ c0.length ≤ cap0) :
    Calls Try.prog 3 #[.slice a0 c0.length cap0] w fun e w' => e = .returned (.bool true) ∧ Below w.heap.size w w' := by
  have hm0 := h0.1.len
  unfold maxLen at hm0
  by_cases hbig : (1048576 : Int) < (c0.length : Int)
  · go_enter Try.func3, Try.ntmps3
    go_wp2
    go_ret
    exact ⟨rfl, Below.refl _ _⟩
  have hd := drawEvsOk_any a0 cap0 c0 w h0.1 h0.2
  go_enter Try.func3, Try.ntmps3
  go_wp2_with fail
  refine hd.mono ?_
  rintro e w1 ⟨v, l, rfl, hown, hl25, hb1⟩
  obtain ⟨al, cl, rfl, hO⟩ := evOwn_of hown
  have hcap : l.length ≤ cl := by
    rcases hown.2 with ⟨e, e0⟩ | ⟨g, cap, cur, e, _, _, hn, _⟩
    · omega
    · simp only [Value.slice.injEq] at e; omega
  have hE1 := hO.evs
  clear hd hown hO
  go_wp2_with fail
  refine (drawEvsSame_any a0 cap0 c0 w1 (h0.1.below hb1) h0.2).mono ?_
  rintro e w2 ⟨va, vb, la, lb, rfl, hoa, hob, hla, hlb, hb2⟩
  obtain ⟨aa, ca, rfl, hOa⟩ := evOwn_of hoa
  obtain ⟨ab, cb, rfl, hOb⟩ := evOwn_of hob
  have hEa2 := hOa.evs
  have hEb2 := hOb.evs
  have hE2 := hE1.below hb2
  have b2 := hb1.trans (hb2.mono hb1.size)
  clear hoa hob hOa hOb
  have hself := evsEqB_self la
  go_wp2_with fail
  refine (implEvsOk_any al cl l w2 hE2).mono ?_
  rintro e w3 ⟨rfl, hb3⟩
  have hE3 := hE2.below hb3
  have hEa3 := hEa2.below hb3
  have hEb3 := hEb2.below hb3
  have b3 := b2.trans (hb3.mono b2.size)
  go_wp2_with fail
  refine (specEvsOk_any al cl l w3 hE3).mono ?_
  rintro e w4 ⟨rfl, hb4⟩
  have hE4 := hE3.below hb4
  have hEa4 := hEa3.below hb4
  have hEb4 := hEb3.below hb4
  have b4 := b3.trans (hb4.mono b3.size)
  go_wp2_with fail
  refine (implEvsSame_any aa ab ca cb la lb w4 hEa4 hEb4).mono ?_
  rintro e w5 ⟨rfl, hb5⟩
  have hE5 := hE4.below hb5
  have hEa5 := hEa4.below hb5
  have hEb5 := hEb4.below hb5
  have b5 := b4.trans (hb5.mono b4.size)
  go_wp2_with fail
  refine (specEvsSame_any aa ab ca cb la lb w5 hEa5 hEb5).mono ?_
  rintro e w6 ⟨rfl, hb6⟩
  have hE6 := hE5.below hb6
  have hEa6 := hEa5.below hb6
  have b6 := b5.trans (hb6.mono b5.size)
  go_wp2_with fail
  refine (implEvsSame_any aa aa ca ca la la w6 hEa6 hEa6).mono ?_
  rintro e w7 ⟨rfl, hb7⟩
  have hE7 := hE6.below hb7
  have b7 := b6.trans (hb7.mono b6.size)
  rw [hself]
  go_wp2_with fail
  refine (specEvsOk_any al cl l w7 hE7).mono ?_
  rintro e w8 ⟨rfl, hb8⟩
  have hE8 := hE7.below hb8
  have b8 := b7.trans (hb8.mono b7.size)
  clear hE1 hE2 hE3 hE4 hE5 hE6 hE7 hEa2 hEa3 hEa4 hEa5 hEa6 hEb2 hEb3 hEb4 hEb5 hself hb1 hb2 hb3 hb4 hb5 hb6 hb7 hb8 b2 b3 b4 b5 b6 b7
  cases hok : evsOkB l
  · go_wp2
    go_ret
    exact ⟨rfl, b8⟩
  by_cases hl0 : l.length = 0
  · have hl0' : ((l.length : Int) == 0) = true := by rw [hl0]; rfl
    have Hl0 : Hid (l.length = 0) := hl0
    clear hl0
    go_wp2
    go_ret
    exact ⟨rfl, b8⟩
  have hl0' : ((l.length : Int) == 0) = false := by rw [beq_eq_false_iff_ne]; omega
  have hok' : okFrom 0 l = true ∧ l.length ≤ 24 := by
    simp only [evsOkB, Bool.and_eq_true, decide_eq_true_eq] at hok
    exact ⟨hok.2, hok.1⟩
  obtain ⟨m, hm⟩ : ∃ m, l.length = m + 1 := ⟨l.length - 1, by omega⟩
  have Hm : Hid (l.length = m + 1) := hm
  have hm1 : (l.length : Int) - 1 = m := by omega
  have hml : m < l.length := by omega
  have hwr : IntKind.i64.wrap (m : Int) = m := by rw [IntKind.wrap_i64]; omega
  have hmI : (m : Int) < (l.length : Int) := by omega
  have hl24 := hok'.2
  have hpos : 0 < l.length := by omega
  obtain ⟨bl, ol, rfl, hblt, hcl⟩ := hE8.cells hpos
  obtain ⟨k0, k1, k2⟩ := hcl m hml
  obtain ⟨y, hy⟩ : ∃ y : Ev, l[m] = y := ⟨_, rfl⟩
  have hyb : 1 ≤ y.at' ∧ y.at' ≤ 1000 := by rw [← hy]; exact ok_each hok'.1 _ (List.getElem_mem hml)
  rw [hy] at k0 k1 k2
  have Hok : Hid (evsOkB l = true) := hok
  have HE : Hid (∀ x ∈ l, 1 ≤ x.at' ∧ x.at' ≤ 1000) := ok_each hok'.1
  clear hok hok' hm hl0 hcl
  go_upto_region 9 with fail
  go_cut [6] (fun v6 wx => ∃ g6 c6, v6 = .slice (some ⟨g6, 0, none⟩) (l.length + 1) c6 ∧ wx.ownsRow w8.heap.size 30 3 (.slice (some ⟨g6, 0, none⟩) (l.length + 1) c6) (l.length + 1) (evCells (l ++ [y])) ∧ Below w8.heap.size w8 wx)
  case first =>
    have hEd : Evs w8.drew (some ⟨bl, ol, none⟩) l := hE8.below ((Below.refl _ _).drew)
    have f2 : ((w8.drew.alloc (.cells #[] 30)).alloc (.cells #[.int .i64 y.sym, .int .i64 y.at', .int .i64 y.val] 30)).heap[w8.heap.size + 1]? = some (.cells #[.int .i64 y.sym, .int .i64 y.at', .int .i64 y.val] 30 (0, 0)) := by
      have := heap_alloc_new (w8.drew.alloc (.cells #[] 30)) (.cells #[.int .i64 y.sym, .int .i64 y.at', .int .i64 y.val] 30)
      rwa [World.size_alloc] at this
    have f3 : ((w8.drew.alloc (.cells #[.int .i64 y.sym, .int .i64 y.at', .int .i64 y.val] 30)).alloc (.cells #[] 30)).heap[w8.heap.size]? = some (.cells #[.int .i64 y.sym, .int .i64 y.at', .int .i64 y.val] 30 (0, 0)) := (Below.heap_alloc _ _ _ (by simp)).trans (heap_alloc_new w8.drew _)
    have hbdr : Below w8.heap.size w8 w8.drew := (Below.refl _ _).drew
    go_region_law (first
      | (have kk := oo5; clear kk; refine estep_one rfl (.tmp 49) (.tmp 56) rfl w8.heap.size _ l rfl (by first | exact oo5 | exact oo5.alloc _) (by first | exact bb5.size | exact Nat.le_trans bb5.size (by simp)) _ y rfl (by first | exact heap_alloc_new _ _ | exact (b5.block _ (by first | (simp; done) | (simp; omega))).trans f2 | exact (b5.block _ (by first | (simp; done) | (simp; omega))).trans f3) (by omega) ?_; intro v6 w6 o6 g6; have bb6 : Below w8.heap.size w8 w6 := (by first | exact bb5.grown g6 bb5.size (fun k hk => (oo5.lt k hk).1) | exact (bb5.alloc bb5.size _).grown g6 (Nat.le_trans bb5.size (by simp)) (fun k hk => (oo5.lt k hk).1)); obtain ⟨g6, c6, rfl⟩ := own_slice o6 (by simp))
      | (refine estep_fresh rfl (.tmp 47) (.tmp 48) rfl _ rfl l _ _ rfl (by first | exact hEd.below (eBelow_new _ _) | exact (hEd.below (eBelow_new _ _)).below (eBelow_new _ _)) hpos (by omega) ?_; intro v5 w5 o5 b5 e5; have bb5 : Below w8.heap.size w8 w5 := (by first | exact chain2 b5 | exact chain1 b5); have oo5 := o5.mono (base' := w8.heap.size) (by first | (simp; done) | (simp; omega)); obtain ⟨_, _, ee, _, hc5⟩ := e5.cells hpos; cases ee; have kk5 := hc5 m hml; rw [hy] at kk5; obtain ⟨k50, k51, k52⟩ := kk5; clear hc5))
    all_goals (try go_wp2_with fail)
    all_goals go_meet
    all_goals exact ⟨g6, c6, rfl, by simpa using o6, bb6⟩
  case rest =>
    obtain ⟨g6, c6, rfl, ho6, hb6⟩ := hcut
    have hEc := hE8.below hb6
    obtain ⟨gy, cy, wd, hrunY, hoY, hbY⟩ := copy_run wc (cx := cl) hEc hpos (by omega)
    obtain ⟨hoY2, hgY2, ⟨zy, hzy⟩, hfy⟩ := own_set hoY (j := 0) (by omega) (.int .i64 5)
    have esY := evCells_set0 l 0 hpos 5
    rw [Nat.zero_mul] at esY
    rw [esY] at hoY2
    have hgyw := (hoY.lt gy rfl).1
    obtain ⟨wy, hwy⟩ : ∃ wy, wd.setCell ⟨gy, 0, none⟩ (.int .i64 5) = wy := ⟨_, rfl⟩
    rw [hwy] at hoY2 hgY2
    have hbwy : Below wc.heap.size wc wy := hbY.grown hgY2 hbY.size (fun k hk => by cases hk; omega)
    have hEy := hEc.below hbwy
    obtain ⟨gz, cz, we, hrunZ, hoZ, hbZ⟩ := copy_run wy (cx := cl) hEy hpos (by omega)
    obtain ⟨hoZ2, hgZ2, ⟨zz, hzz⟩, hfz⟩ := own_set hoZ (j := 2) (by omega) (.int .i64 101)
    have esZ := evCells_set2 l 0 hpos 101
    rw [Nat.zero_mul, Nat.zero_add] at esZ
    rw [esZ] at hoZ2
    have hgzw := (hoZ.lt gz rfl).1
    obtain ⟨wz, hwz⟩ : ∃ wz, we.setCell ⟨gz, 2, none⟩ (.int .i64 101) = wz := ⟨_, rfl⟩
    rw [hwz] at hoZ2 hgZ2
    have hbwz : Below wy.heap.size wy wz := hbZ.grown hgZ2 hbZ.size (fun k hk => by cases hk; omega)
    have hEz := hEy.below hbwz
    have hgyl := (hoY2.lt gy rfl).2
    have hgzl := (hoZ2.lt gz rfl).2
    have hg6 := ho6.lt g6 rfl
    obtain ⟨_, _, eY, hOY⟩ := evOwn_of (l := l.set 0 ⟨5, l[0].at', l[0].val⟩) (by rw [List.length_set]; exact hoY2)
    simp only [Value.slice.injEq] at eY
    obtain ⟨rfl, -, -⟩ := eY
    obtain ⟨_, _, eZ, hOZ⟩ := evOwn_of (l := l.set 0 ⟨l[0].sym, l[0].at', 101⟩) (by rw [List.length_set]; exact hoZ2)
    simp only [Value.slice.injEq] at eZ
    obtain ⟨rfl, -, -⟩ := eZ
    have hEY := hOY.evs.below hbwz
    have hEZ := hOZ.evs
    have ho6z := eOwns_below (eOwns_below ho6 hbwy) hbwz
    have hb8z := (hb6.trans (hbwy.mono hb6.size)).trans (hbwz.mono (Nat.le_trans hb6.size hbwy.size))
    clear esY esZ hOY hOZ
    have hs1 := hbwy.size
    have hs2 := hb6.size
    have HrZ : Hid _ := hrunZ
    have HrY : Hid _ := hrunY
    clear hrunZ hrunY
    have HrZ' := HrZ
    generalize hn : l.length = n at HrY HrZ ⊢
    have Hn : Hid (l.length = n) := hn
    have hn0 : 0 < n := hn ▸ hpos
    have hn24 : n ≤ 24 := hn ▸ hl24
    have hncl : n ≤ cl := hn ▸ hcap
    clear hn HrZ' hl0' hm1 hwr hmI hyb k0 k1 k2
    go_wp2_with (at_builtin; refine Stay.out ?_)
    refine ⟨?_⟩
    refine ewpList_append_run rfl (.tmp 58) (.tmp 59) 23 rfl _ _ rfl rfl HrY.out ?_
    simp only [Act.put, List.setIfInBounds_toArray, List.set_cons_succ, List.set_cons_zero]
    go_wp2_with (at_builtin; refine Stay.out ?_)
    refine ⟨?_⟩
    refine ewpList_append_run rfl (.tmp 64) (.tmp 65) 23 rfl _ _ rfl rfl HrZ.out ?_
    simp only [Act.put, List.setIfInBounds_toArray, List.set_cons_succ, List.set_cons_zero]
    go_wp2_with fail
    obtain ⟨i0, hi, hz0, hz1, hz2⟩ := info_ev_parts
    have hg6lt : g6 < wc.heap.size := hg6.2
    have hg6ge : w8.heap.size ≤ g6 := hg6.1
    have hY0 : Hid (∀ x ∈ l ++ [y], 0 ≤ x.at' ∧ x.at' ≤ 1200 + (l ++ [y]).length) := by
      intro x hx
      have hxx : 1 ≤ x.at' ∧ x.at' ≤ 1000 := by
        rcases List.mem_append.1 hx with hx | hx
        · exact HE.out x hx
        · simp only [List.mem_singleton] at hx
          rw [hx, ← hy]
          exact HE.out _ (List.getElem_mem hml)
      constructor
      · omega
      · have : (0 : Int) ≤ (l ++ [y]).length := Int.natCast_nonneg _
        omega
    clear hy hml
    go_loopw [6] (fun v wr => ∃ (l' : List Ev) (g' c' : Nat), v = .slice (some ⟨g', 0, none⟩) l'.length c' ∧ n < l'.length ∧ l'.length ≤ 25 ∧ wr.ownsRow w8.heap.size 30 3 (.slice (some ⟨g', 0, none⟩) l'.length c') l'.length (evCells l') ∧ Hid (∀ x ∈ l', 0 ≤ x.at' ∧ x.at' ≤ 1200 + l'.length) ∧ (g' = g6 ∨ wz.heap.size ≤ g') ∧ wz.grownBy wr (some g6)) (fun v _ => 25 - sliceLenE v)
    case atStart =>
      have e1 : (l ++ [y]).length = n + 1 := by rw [List.length_append, Hn.out]; rfl
      have e2 := Hn.out
      rw [e2] at ho6z
      exact ⟨l ++ [y], g6, c6, by rw [e1], by omega, by omega, by rw [e1]; exact ho6z, hY0, .inl rfl, grownBy_refl _ _⟩
    case round =>
      obtain ⟨l', g', c', rfl, hll, hl25', hown, hb', hgg, hgr⟩ := hrel
      have hsz := hgr.4
      have Hll : Hid (n < l'.length) := hll
      by_cases h24 : l'.length ≤ 24
      · have h24' : (l'.length : Int) ≤ 24 := by omega
        have hgw' := (hown.lt g' rfl).1
        obtain ⟨y0, hy0, hyb⟩ : ∃ y0, wr.cell? ⟨g', (l'.length - 1) * 3 + 1, none⟩ = some (.int .i64 y0) ∧ 0 ≤ y0 ∧ y0 ≤ 1200 + l'.length := by
          obtain ⟨a', c'', e, hO⟩ := evOwn_of hown
          simp only [Value.slice.injEq] at e
          obtain ⟨rfl, -, -⟩ := e
          obtain ⟨b, off, e, _, hc⟩ := hO.evs.cells (by omega)
          cases e
          have := (hc (l'.length - 1) (by omega)).2.1
          exact ⟨_, by simpa using this, hb'.out _ (List.getElem_mem _)⟩
        obtain ⟨m', hm⟩ : ∃ m', l'.length = m' + 1 := ⟨l'.length - 1, by omega⟩
        have Hm' : Hid (l'.length = m' + 1) := hm
        have hm24 : m' ≤ 23 := by omega
        rw [hm, Nat.add_sub_cancel] at hy0
        rw [hm] at hown h24' hyb ⊢
        have hm1 : ((m' + 1 : Nat) : Int) - 1 = m' := by omega
        clear hm h24 hl25' hll
        go_wp2_with (at_builtin; refine wpList_append_own_at _ rfl _ _ 23 rfl w8.heap.size 30 i0 (.agg #[.int .i64 0, .int .i64 0, .int .i64 0]) 3 24 Try.underlying23 hi hz0 hz1 hz2 rfl (by decide) _ _ _ rfl (hown.alloc _) ⟨wr.heap.size, 0, none⟩ 1 1 [.int .i64 0, .int .i64 (y0 + 1), .int .i64 0] rfl rfl ?c1 ?c2 ?c3 ?c4 ?c5 ?_)
        case c1 => simpa using new_ev wr ⟨0, y0 + 1, 0⟩ 30
        case c2 => intro u hu; simp at hu; rcases hu with rfl | rfl | rfl <;> rfl
        case c3 => unfold maxLen; omega
        case c4 => omega
        case c5 => simp; omega
        intro v' w5 hown5 hgr5 _ hblk5
        have hb4 := eBelow_new wr (.cells #[.int .i64 0, .int .i64 (y0 + 1), .int .i64 0] 30)
        obtain ⟨g5, c5, rfl⟩ := own_slice hown5 (by omega)
        have hgg5 : g5 = g6 ∨ wz.heap.size ≤ g5 := by
          rcases hblk5 with e | e
          · have : g5 = g' := Option.some.inj e
            omega
          · have : g5 = wr.heap.size + 1 := by have := Option.some.inj e; simpa using this
            omega
        have gr5 : wz.grownBy w5 (some g6) := grown_part (grownBy_trans hgr (eGrown hb4)) hgr5 (fun x hx => by
          have : x = g' := (Option.some.inj hx).symm
          omega)
        go_wp2
        have hlen5 : (l' ++ [(⟨0, y0 + 1, 0⟩ : Ev)]).length = m' + 1 + 1 := by rw [List.length_append, Hm'.out]; rfl
        refine ⟨⟨l' ++ [⟨0, y0 + 1, 0⟩], g5, c5, by rw [hlen5], ?_, by omega, ?_, ?_, hgg5, gr5⟩, by simp [sliceLenE]; omega⟩
        · have := Hm'.out; have := Hll.out; omega
        · rw [evCells_snoc, hlen5]; exact hown5
        · intro x hx
          rcases List.mem_append.1 hx with hx | hx
          · have h1 := hb'.out x hx
            have h2 := Hm'.out
            show _ ∧ _
            omega
          · simp only [List.mem_singleton] at hx
            subst hx
            show 0 ≤ y0 + 1 ∧ y0 + 1 ≤ _
            omega
      · have hbx : evsOkB l' = false := bad_long (by omega)
        obtain ⟨_, _, eX, hOX⟩ := evOwn_of hown
        simp only [Value.slice.injEq] at eX
        obtain ⟨rfl, -, -⟩ := eX
        have hEX := hOX.evs
        have ne1 : g6 ≠ gy := by omega
        have ne2 : g6 ≠ gz := by omega
        have ne3 : g6 ≠ bl := by omega
        have hEYr := Evs.only hEY hgr (fun x hx => by cases hx; simpa using ne1)
        have hEZr := Evs.only hEZ hgr (fun x hx => by cases hx; simpa using ne2)
        have hElr := Evs.only hEz hgr (fun x hx => by cases hx; simpa using ne3)
        have hb8r : Below w8.heap.size w8 wr := hb8z.grown hgr hb8z.size (fun k hk => by cases hk; omega)
        have hbY' : evsOkB (l.set 0 ⟨5, l[0].at', l[0].val⟩) = false := bad_head hpos (by show evOkB 5 _ _ = false; exact evOkB_no (by omega))
        have hbZ' : evsOkB (l.set 0 ⟨l[0].sym, l[0].at', 101⟩) = false := bad_head hpos (by show evOkB _ _ 101 = false; exact evOkB_no (by omega))
        have hbT : evsOkB (l.drop 1) = true := ok_tail Hok.out
        have hET : Evs wr (some ⟨bl, ol + 3, none⟩) (l.drop 1) := evs_drop hElr 1 (by omega)
        have elY : (l.set 0 ⟨5, l[0].at', l[0].val⟩).length = n := by rw [List.length_set]; exact Hn.out
        have elZ : (l.set 0 ⟨l[0].sym, l[0].at', 101⟩).length = n := by rw [List.length_set]; exact Hn.out
        have elT : (l.drop 1).length = n - 1 := by rw [List.length_drop, Hn.out]
        obtain ⟨_, _, eY0, _, hcY⟩ := hEYr.cells (by omega)
        cases eY0
        obtain ⟨_, _, eZ0, _, hcZ⟩ := hEZr.cells (by omega)
        cases eZ0
        have y0 := hcY 0 (by omega)
        have z0 := hcZ 0 (by omega)
        simp only [List.getElem_set_self, Nat.zero_mul, Nat.zero_add] at y0 z0
        obtain ⟨y00, y01, y02⟩ := y0
        obtain ⟨z00, z01, z02⟩ := z0
        generalize l[0].at' = p1 at *
        generalize l[0].val = p2 at *
        generalize l[0].sym = p0 at *
        clear hcY hcZ hgg hown
        have hgyr : gy < wr.heap.size := Nat.lt_of_lt_of_le (Nat.lt_of_lt_of_le hgyl hbwz.size) hsz
        have hgzr : gz < wr.heap.size := Nat.lt_of_lt_of_le hgzl hsz
        have cX : ∀ c w', Evs w' (some ⟨g', 0, none⟩) l' → Calls Try.prog 7 #[.slice (some ⟨g', 0, none⟩) l'.length c] w' fun e w'' => e = .returned (.bool false) ∧ Below w'.heap.size w' w'' := fun c w' hE => by
          have := implEvsOk_any _ c _ w' hE
          rwa [hbx] at this
        have cY : ∀ c w', Evs w' (some ⟨gy, 0, none⟩) (l.set 0 ⟨5, p1, p2⟩) → Calls Try.prog 7 #[.slice (some ⟨gy, 0, none⟩) n c] w' fun e w'' => e = .returned (.bool false) ∧ Below w'.heap.size w' w'' := fun c w' hE => by
          have := implEvsOk_any _ c _ w' hE
          rwa [elY, hbY'] at this
        have cZ : ∀ c w', Evs w' (some ⟨gz, 0, none⟩) (l.set 0 ⟨p0, p1, 101⟩) → Calls Try.prog 7 #[.slice (some ⟨gz, 0, none⟩) n c] w' fun e w'' => e = .returned (.bool false) ∧ Below w'.heap.size w' w'' := fun c w' hE => by
          have := implEvsOk_any _ c _ w' hE
          rwa [elZ, hbZ'] at this
        have cT : ∀ c w', Evs w' (some ⟨bl, ol + 3, none⟩) (l.drop 1) → Calls Try.prog 7 #[.slice (some ⟨bl, ol + 3, none⟩) (n - 1) c] w' fun e w'' => e = .returned (.bool true) ∧ Below w'.heap.size w' w'' := fun c w' hE => by
          have := implEvsOk_any _ c _ w' hE
          rwa [elT, hbT] at this
        have cT0 : n - 1 = 0 → ∀ c w', Calls Try.prog 7 #[.slice (some ⟨bl, ol, none⟩) (n - 1) c] w' fun e w'' => e = .returned (.bool true) ∧ Below w'.heap.size w' w'' := fun hz c w' => by
          rw [hz]
          exact implEvsOk_any (some ⟨bl, ol, none⟩) c [] w' ⟨by simp [maxLen], fun h => by simp at h⟩
        have kY : ∀ w', Calls Try.prog 11 #[.agg #[.int .i64 5, .int .i64 p1, .int .i64 p2]] w' fun e w'' => e = .returned (.bool false) ∧ Below w'.heap.size w' w'' := fun w' => by
          have := implEvOk_any 5 p1 p2 w'
          rwa [evOkB_no (by omega)] at this
        have kZ : ∀ w', Calls Try.prog 11 #[.agg #[.int .i64 p0, .int .i64 p1, .int .i64 101]] w' fun e w'' => e = .returned (.bool false) ∧ Below w'.heap.size w' w'' := fun w' => by
          have := implEvOk_any p0 p1 101 w'
          rwa [evOkB_no (by omega)] at this
        clear hbx hbY' hbZ' hbT elY elZ elT
        go_wp2_with fail
        refine (cX _ wr hEX).mono ?_
        rintro e w9 ⟨rfl, hb9⟩
        go_wp2_with fail
        refine (cY _ w9 (hEYr.below hb9)).mono ?_
        rintro e w10 ⟨rfl, hb10⟩
        have b10 := hb9.trans (hb10.mono hb9.size)
        go_wp2_with fail
        refine (cZ _ w10 (hEZr.below b10)).mono ?_
        rintro e w11 ⟨rfl, hb11⟩
        have b11 := b10.trans (hb11.mono b10.size)
        go_wp2_with fail
        all_goals first
          | (have hcl1 : cl ≤ 1 := by omega
             refine (cT0 (by omega) _ w11).mono ?_)
          | (refine (cT _ w11 (hET.below b11)).mono ?_)
        all_goals (
          rintro e w12 ⟨rfl, hb12⟩
          have b12 := b11.trans (hb12.mono b11.size)
          have y0' := (b12.cell hgyr).trans y00
          have y1' := (b12.cell hgyr).trans y01
          have y2' := (b12.cell hgyr).trans y02
          go_wp2_with fail
          refine (kY w12).mono ?_
          rintro e w13 ⟨rfl, hb13⟩
          have b13 := b12.trans (hb13.mono b12.size)
          have z0' := (b13.cell hgzr).trans z00
          have z1' := (b13.cell hgzr).trans z01
          have z2' := (b13.cell hgzr).trans z02
          go_wp2_with fail
          refine (kZ w13).mono ?_
          rintro e w14 ⟨rfl, hb14⟩
          have b14 := b13.trans (hb14.mono b13.size)
          go_wp2
          go_ret
          exact ⟨rfl, b8.trans ((hb8r.trans (b14.mono hb8r.size)).mono b8.size)⟩)

set_option maxRecDepth 100000 in
theorem lifted (os : Os) (started : os.Started) (H : Type) (enc : TypeId × Value → H) :
    ReturnsInHanded {} Try.checked os 3 .any (Rows.fnEvBentSpec.pre6 enc Try.prog Try.f3 Rows.fnEvBentRow.domain false) (Rows.fnEvBentSpec.post enc Try.prog Try.f3 false true false false) := by
  refine returnsInHanded_of_change (C := Try.checked) own started (by kernel_rfl) Try.func3
    (ChangeSpec.witness6 (enc := enc) (C := Try.checked) false ⟨#[], #[.slice none 0 0], []⟩ 8 (by kernel_rfl) (by kernel_rfl) (by kernel_rfl) (by kernel_rfl)) ?_
  intro W base args ds gs before hval0 hW hcnd _
  have hval : ∀ (j : Nat) t v, Try.f3.params[j]? = some t → args[j]? = some v → Value.okWide Try.prog W .any base t v := hval0
  have hW' := hW
  obtain ⟨p, q, hA0, hV, rfl, hfz, hnd⟩ := hW
  have hA : DataW.TrodAll enc Try.prog W 0 (fun _ => true) true Try.f3.params.toList args.toList ds p := hA0
  rw [Try.params3] at hA hval
  obtain ⟨v0, vs0, d0, ds0, p0, q0, hargs, rfl, rfl, h0, r0⟩ := trodAll_cons hA
  obtain ⟨rfl, rfl, rfl⟩ := trodAll_nil r0
  obtain rfl : args = #[v0] := by cases args; simp_all
  obtain ⟨rfl, rfl⟩ := trodVars_none hV
  have k0 := h0
  have lt0 : ∀ x ∈ p0, x.block < W.heap.size := by obtain ⟨m, hm⟩ := k0; exact DataW.trod_lt m _ _ _ hm
  obtain ⟨a0, cap0, bs0, rfl, e0⟩ := open_bytes (hval 0 22 v0 rfl rfl) h0
  clear hA0 hval0
  refine (walk a0 cap0 bs0 W e0).mono fun e W' ⟨he, bel⟩ => ?_
  subst he
  exact ⟨_, rfl, _, _, _, [], _, [], hW', trodAll_mk1 (shut_bool Try.underlying4 _), (trodAll_cons_mk (Below.trod laidOut (by kernel_rfl) (of_decide_eq_true (by kernel_rfl)) k0 bel lt0) trodAll_mk0), rfl, bel.frame _, fun h => by cases h⟩

theorem over : Rows.fnEvBentRow.holds Try.pinned (OpenSpec.ofChange Rows.fnEvBentSpec) :=
  OpenClaim.holds_of_wide 3 Try.f3 rfl rfl rfl rfl rfl rfl rfl ⟨rfl, rfl, rfl, rfl, rfl⟩ rfl rfl rfl rfl rfl (by kernel_rfl) Try.func3 (by kernel_rfl)
    (of_decide_eq_true (by kernel_rfl)) (by unfold Func.isWrapper; first | (rw [if_pos (by decide +kernel)]; kernel_rfl) | (rw [if_neg (by decide +kernel)]; exact ⟨rfl, rfl⟩))
    (fun os started H enc _ => lifted os started H enc)
end Go.Proofs.Ytjahlelgdlbobaa.fnEvBent
namespace Go.Proofs.Ytjahlelgdlbobaa
theorem fnEvBent_holds : Rows.FnEvBentSaid := fnEvBent.over
#print axioms fnEvBent_holds
end Go.Proofs.Ytjahlelgdlbobaa

