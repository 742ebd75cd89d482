/- The specification's EvsRead: the events that are ok of which this is the text. -/
import Derived.Test.YtpdboneapodkjaaDoorRead7
namespace Go.Proofs.YtpdboneapodkjaaDoor
open Go.ChangeShapes Go.WideShapes Go.ChangeAt Go.RowKit
set_option linter.unusedVariables false

/-- The row g of texts holds the pieces. -/
structure Pieces (w : World) (g : Nat) (ps : List ByteArray) : Prop where
  row : ∃ c, w.heap[g]? = some (.cells c 9 (0, 0)) ∧ ∀ i (h : i < ps.length), c[i]? = some (.string ps[i])

theorem Pieces.cell {w : World} {g : Nat} {ps : List ByteArray} (h : Pieces w g ps) {i : Nat} (hi : i < ps.length) : w.cell? ⟨g, i, none⟩ = some (.string ps[i]) := by
  obtain ⟨c, h1, h2⟩ := h.row
  rw [Lib.cell_of_heap h1]; exact h2 i hi
theorem Pieces.lt {w : World} {g : Nat} {ps : List ByteArray} (h : Pieces w g ps) : g < w.heap.size := by
  obtain ⟨c, h1, _⟩ := h.row
  exact (Array.getElem?_eq_some_iff.1 h1).1
theorem Pieces.below {w w' : World} {g : Nat} {ps : List ByteArray} (h : Pieces w g ps) (hb : Below w.heap.size w w') : Pieces w' g ps := by
  have hlt := h.lt
  obtain ⟨c, h1, h2⟩ := h.row
  exact ⟨c, (hb.block g hlt).trans h1, h2⟩
theorem Pieces.grown {w w' : World} {g B n k : Nat} {ps : List ByteArray} {v : Value} {xs : List Value} (h : Pieces w g ps) (ho : w.ownsRow B 35 n v k xs) (hg : w.grownBy w' v.ownBlock) : Pieces w' g ps := by
  have hlt := h.lt
  obtain ⟨c, h1, h2⟩ := h.row
  refine ⟨c, (hg.block g hlt (fun e => ?_)).trans h1, h2⟩
  rcases ho.2 with ⟨rfl, _⟩ | ⟨g', cap, cur, rfl, _, hg', _⟩
  · simp [Value.ownBlock] at e
  · simp only [Value.ownBlock, Option.some.injEq] at e
    subst e
    rw [h1] at hg'
    injection hg' with hg'
    injection hg' with _ ht _
    revert ht; decide

theorem pieces_of {w : World} {B : Nat} {v : Value} {ps : List ByteArray} (h : w.ownsRow B 9 1 v ps.length (strCellsL ps)) (hne : ps ≠ []) : ∃ g cap, v = .slice (some ⟨g, 0, none⟩) ps.length cap ∧ Pieces w g ps := by
  rcases h.2 with ⟨_, h0⟩ | ⟨g, cap, cur, rfl, _, hg, hnc, hcm, hcs, htk⟩
  · exact absurd (List.eq_nil_of_length_eq_zero h0) hne
  · refine ⟨g, cap, rfl, ⟨cur, hg, fun i hi => ?_⟩⟩
    have h1 : (strCellsL ps)[i]? = some (.string ps[i]) := by simp [strCellsL, hi]
    rw [← htk, List.getElem?_take, if_pos (by omega), Array.getElem?_toList] at h1
    exact h1

theorem flat_len : ∀ (q : List (List UInt8)) (p : List UInt8), p ∈ q → p.length ≤ (q.flatMap (fun x => 32 :: x)).length
  | [], _, h => by cases h
  | x :: r, p, h => by
    simp only [List.mem_cons] at h
    simp only [List.flatMap_cons, List.length_append, List.length_cons]
    rcases h with rfl | h
    · omega
    · have := flat_len r p h
      omega
theorem joinF_len (q : List (List UInt8)) (p : List UInt8) (h : p ∈ q) : p.length ≤ (joinF q).length := by
  match q, h with
  | x :: r, h =>
    simp only [List.mem_cons] at h
    simp only [joinF, List.length_append]
    rcases h with rfl | h
    · omega
    · have := flat_len r p h
      omega

/-- What the specification's loop holds to. -/
def ReadInv (t : List UInt8) (ps : List ByteArray) (acc : List Ev) : Prop :=
  acc.map evText = (ps.take acc.length).map bs ∧ ∀ l, evsOkB l = true → evsText l = t → acc = l.take acc.length

theorem read_pieces {t : List UInt8} {ps : List ByteArray} (hp : ps.map bs = cutAux [] t) (ht : t ≠ []) {l : List Ev} (hl : evsText l = t) : ps.map bs = l.map evText := by
  have hne : l ≠ [] := by
    intro e
    rw [e] at hl
    exact ht hl.symm
  rw [hp, ← hl, cut_text hne]

theorem read_ok {t : List UInt8} {ps : List ByteArray} {acc : List Ev} {x : Ev} (hp : ps.map bs = cutAux [] t) (ht : t ≠ []) (h : ReadInv t ps acc) (hk : acc.length < ps.length) (ho : OnePost (bs ps[acc.length]) x true) : ReadInv t ps (acc ++ [x]) := by
  refine ⟨?_, fun l hl hlt => ?_⟩
  · rw [List.length_append, List.length_singleton, List.take_succ_eq_append_getElem hk, List.map_append, List.map_append, h.1]
    simp [ho.1 rfl]
  · have hm := read_pieces hp ht hlt
    have hlen : ps.length = l.length := by have := congrArg List.length hm; simpa using this
    have hkl : acc.length < l.length := by omega
    have hget : bs ps[acc.length] = evText l[acc.length] := by
      have := congrArg (·[acc.length]?) hm
      simpa [hk, hkl] using this
    have hx := (ho.2 l[acc.length] (evsOkB_get hl _ (List.getElem_mem hkl)) hget.symm).2
    have ha := h.2 l hl hlt
    rw [List.length_append, List.length_singleton, List.take_succ_eq_append_getElem hkl, ← ha, hx]

theorem read_bad {t : List UInt8} {ps : List ByteArray} {acc : List Ev} {x : Ev} (hp : ps.map bs = cutAux [] t) (ht : t ≠ []) (hk : acc.length < ps.length) (ho : OnePost (bs ps[acc.length]) x false) : Reads t none := by
  refine Or.inr (fun l hl hlt => ?_)
  have hm := read_pieces hp ht hlt
  have hlen : ps.length = l.length := by have := congrArg List.length hm; simpa using this
  have hkl : acc.length < l.length := by omega
  have hget : bs ps[acc.length] = evText l[acc.length] := by
    have := congrArg (·[acc.length]?) hm
    simpa [hk, hkl] using this
  have := (ho.2 l[acc.length] (evsOkB_get hl _ (List.getElem_mem hkl)) hget.symm).1
  cases this

theorem read_end {t : List UInt8} {ps : List ByteArray} {acc : List Ev} (hp : ps.map bs = cutAux [] t) (ht : t ≠ []) (h : ReadInv t ps acc) (hk : acc.length = ps.length) (h3 : t.length ≤ 300) : Reads t (if evsOkB acc = true then some acc else none) := by
  have e : evsText acc = t := by
    rw [evsText_join, h.1, hk, List.take_length, hp, joinF_cut, List.nil_append]
  by_cases hok : evsOkB acc = true
  · rw [if_pos hok]; exact ⟨hok, e, h3⟩
  · rw [if_neg hok]
    refine Or.inr (fun l hl hlt => ?_)
    have hm := read_pieces hp ht hlt
    have hlen : ps.length = l.length := by have := congrArg List.length hm; simpa using this
    have ha := h.2 l hl hlt
    rw [hk, hlen, List.take_length] at ha
    rw [ha] at hok
    exact hok hl

set_option maxHeartbeats 4000000 in
theorem specEvsRead_any (s : ByteArray) (w : World) (hs : s.size ≤ 1048576) :
    Calls Tryd.prog 10 #[.string s] w fun e w' => ∃ r, Reads (bs s) r ∧ ReadEnd w.heap.size w' e r ∧ Below w.heap.size w w' := by
  obtain ⟨i0, hi, hz0, hz1, hz2⟩ := info_ev_parts
  have hbl := bs_len s
  by_cases h0 : s.size = 0
  · have hb0 : bs s = [] := List.eq_nil_of_length_eq_zero (by omega)
    have hrd : Hid (Reads (bs s) (some [])) := by
      show Reads _ _
      rw [hb0]; exact ⟨rfl, rfl, by simp⟩
    have hse : s = ByteArray.empty := ByteArray.ext (by
      have : s.data.toList = [] := hb0
      simpa using this)
    clear hbl h0 hb0
    subst hse
    go_enter Tryd.func10, Tryd.ntmps10
    go_wp2
    go_ret2
    exact ⟨some [], hrd.out, ⟨_, _, rfl, ⟨by simp, fun x hx => by cases hx; exact Nat.le_refl _, by simp⟩⟩, (Below.refl _ _).alloc (Nat.le_refl _) _⟩
  · have hem : s.toList.isEmpty = false := by
      cases h : s.toList.isEmpty
      · rfl
      · exfalso
        apply h0
        have h1 : s.toList = ByteArray.empty.toList := by rw [List.isEmpty_iff.1 h]; decide +kernel
        rw [toList_inj h1]; rfl
    have hne : Hid (bs s ≠ []) := by
      intro e
      have := congrArg List.length e
      rw [hbl, List.length_nil] at this
      exact h0 this
    by_cases h300 : (300 : Int) < (s.size : Int)
    · have hrd : Hid (Reads (bs s) none) := Or.inl (by rw [hbl]; omega)
      clear hbl h0
      go_enter Tryd.func10, Tryd.ntmps10
      go_wp2
      go_ret2
      exact ⟨none, hrd.out, ⟨none, 0, rfl, ⟨by simp, by simp, by simp⟩⟩, (Below.refl _ _).alloc (Nat.le_refl _) _⟩
    · have h3 : Hid ((bs s).length ≤ 300) := by show _ ≤ _; rw [hbl]; omega
      clear hbl h0
      go_enter Tryd.func10, Tryd.ntmps10
      go_wp2_with fail
      refine (l14Cut_any s _ hs).mono ?_
      rintro e w1 ⟨v, ps, rfl, hown, hcut, hpl, hb1⟩
      have hpne : ps ≠ [] := by
        intro e
        have h1 := hcut.out
        rw [e] at h1
        exact cutAux_ne _ _ h1.symm
      obtain ⟨g, cap, rfl, hP⟩ := pieces_of hown hpne
      clear hown hpne
      have hout : w1.ownsRow w.heap.size 35 3 (.slice (some ⟨w.heap.size, 0, none⟩) 0 0) 0 [] := own_below (World.ownsRow_made w #[] 0 (Nat.le_refl _) (by simp [maxLen]) rfl) hb1
      have hb0 : Below w.heap.size w w1 := ((Below.refl _ _).alloc (Nat.le_refl _) _).trans (hb1.mono (by simp))
      go_wp2
      go_loopw [4, 6, 7, 8] (fun v i _ _ wr => ∃ acc : List Ev, acc.length ≤ ps.length ∧ i = .int .i64 acc.length ∧ wr.ownsRow w.heap.size 35 3 v acc.length (evCells acc) ∧ Pieces wr g ps ∧ ReadInv (bs s) ps acc ∧ Below w.heap.size w wr) (fun _ i _ _ _ => ps.length - (intOf i).toNat)
      case atStart => exact ⟨[], Nat.zero_le _, rfl, hout, hP, ⟨rfl, fun l _ _ => rfl⟩, hb0⟩
      case round =>
        obtain ⟨acc, hal, rfl, hown, hPr, hinv, hb⟩ := hrel
        have hsz := hb.size
        clear hout hP hb0 hb1
        by_cases hlt : acc.length < ps.length
        · have c0 := hPr.cell hlt
          have hps : Hid (bs ps[acc.length] = bs ps[acc.length]) := rfl
          have hpsz : ps[acc.length].size ≤ 1048576 := by
            have h1 := joinF_len (ps.map bs) (bs ps[acc.length]) (List.mem_map_of_mem (List.getElem_mem hlt))
            rw [hcut.out, joinF_cut, List.nil_append, bs_len, bs_len] at h1
            omega
          go_wp2_with fail
          refine (l1One_any _ _ hpsz).mono ?_
          rintro e w2 ⟨x, ok, rfl, hop, hb2⟩
          have hown2 := own_below hown hb2
          have hP2 := hPr.below hb2
          have hbe2 := hb.trans (hb2.mono hsz)
          have hsz2 := hbe2.size
          cases ok
          · have hrd : Hid (Reads (bs s) none) := read_bad hcut.out hne.out hlt hop
            go_wp2
            go_ret2
            exact ⟨none, hrd.out, ⟨none, 0, rfl, ⟨by simp, by simp, by simp⟩⟩, hbe2.alloc hsz2 _⟩
          · have hin2 : Hid (ReadInv (bs s) ps (acc ++ [x])) := read_ok hcut.out hne.out hinv hlt hop
            go_wp2_with (at_builtin; refine wpList_append_own _ rfl _ _ 25 rfl w.heap.size 35 i0 (.agg #[.int .i64 0, .int .i64 0, .int .i64 0]) 3 24 Tryd.underlying25 hi hz0 hz1 hz2 rfl (by decide) _ _ _ rfl ((hown2.alloc _).alloc _) ⟨w2.heap.size + 1, 0, none⟩ 1 1 [.int .i64 x.sym, .int .i64 x.at', .int .i64 x.val] rfl rfl ?c1 ?c2 ?c3 ?c4 ?c5 ?_)
            case c1 => simpa using new_ev (w2.alloc _) x.sym x.at' x.val 35
            case c2 => intro u hu; simp at hu; rcases hu with rfl | rfl | rfl <;> rfl
            case c3 => unfold maxLen; omega
            case c4 => omega
            case c5 => simp; omega
            intro v' w3 hown' hgr _
            have hbe3 : Below w.heap.size w w3 := ((hbe2.alloc hsz2 _).alloc (by simp; omega) _).grown hgr (by simp; omega) (fun y hy => (hown2.lt y hy).1)
            have hP3 : Pieces w3 g ps := ((hP2.below ((Below.refl _ _).alloc (Nat.le_refl _) _)).below ((Below.refl _ _).alloc (Nat.le_refl _) _)).grown ((hown2.alloc _).alloc _) hgr
            go_wp2
            refine ⟨⟨acc ++ [x], by simp; omega, by simp, ?_, hP3, hin2.out, hbe3⟩, by simp [intOf]; omega⟩
            rw [evCells_snoc, List.length_append]; exact hown'
        · have hk : acc.length = ps.length := by omega
          have hrd := read_end hcut.out hne.out hinv hk h3.out
          obtain ⟨a, cap', rfl, hO⟩ := evOwn_of hown
          have Hrd : Hid _ := hrd
          clear hrd hown hk
          go_wp2_with fail
          refine (specEvsOk_any _ _ acc _ hO.evs).mono ?_
          rintro e w2 ⟨rfl, hb2⟩
          have hbe2 := hb.trans (hb2.mono hsz)
          have hO2 := hO.below hb2
          cases hok : evsOkB acc
          · have h4 : Reads (bs s) none := by have := Hrd.out; rw [hok, if_neg (by decide)] at this; exact this
            have H4 : Hid _ := h4
            clear h4
            go_wp2
            go_ret2
            exact ⟨none, H4.out, ⟨none, 0, rfl, ⟨by simp, by simp, by simp⟩⟩, hbe2⟩
          · have h4 : Reads (bs s) (some acc) := by have := Hrd.out; rw [hok, if_pos rfl] at this; exact this
            have H4 : Hid _ := h4
            clear h4
            go_wp2
            go_ret2
            exact ⟨some acc, H4.out, ⟨a, cap', rfl, hO2⟩, hbe2⟩
end Go.Proofs.YtpdboneapodkjaaDoor
