/- Whatever is drawn to have happened: what had happened at a later time begins with what had at an earlier one; at a time ahead of all nothing had, and behind all all had. -/
import Derived.Test.YtfmldbnjlnpdpaaDrawE3
import Derived.Test.YtfmldbnjlnpdpaaEvs3
namespace Go.Proofs.Ytfmldbnjlnpdpaa.fnEvTill
open Go.ChangeShapes Go.WideShapes Go.ChangeAt Go.RowKit
set_option linter.unusedVariables false
set_option maxRecDepth 4000
theorem okFrom_cons {la : Int} {e : Ev} {r : List Ev} (h : okFrom la (e :: r) = true) : evOkB e.sym e.at' e.val = true ∧ la < e.at' ∧ okFrom e.at' r = true := by
  have := okFrom_step (last := la) (l := e :: r) (k := 0) (by simp)
  simp only [List.drop_zero, List.drop_succ_cons, List.getElem_cons_zero] at this
  rw [this] at h
  simp only [Bool.and_eq_true, decide_eq_true_eq] at h
  exact ⟨h.1.1, h.1.2, h.2⟩
theorem above {la : Int} : ∀ {l : List Ev}, okFrom la l = true → ∀ x ∈ l, la < x.at'
  | e :: r, h, x, hx => by
    obtain ⟨_, h2, h3⟩ := okFrom_cons h
    rcases List.mem_cons.1 hx with rfl | hx
    · exact h2
    · have := above h3 x hx; omega
/-- What had happened is a beginning of what happened. -/
theorem till_prefix {la : Int} (t : Int) : ∀ {l : List Ev}, okFrom la l = true → till l t = l.take (till l t).length
  | [], _ => rfl
  | e :: r, h => by
    obtain ⟨_, h2, h3⟩ := okFrom_cons h
    by_cases he : e.at' ≤ t
    · have e1 : till (e :: r) t = e :: till r t := by simp [till, he]
      rw [e1]
      simp only [List.length_cons, List.take_succ_cons]
      rw [← till_prefix t h3]
    · have e1 : till (e :: r) t = [] := by
        unfold till
        rw [List.filter_eq_nil_iff]
        intro x hx
        rcases List.mem_cons.1 hx with rfl | hx
        · simpa using he
        · have := above h3 x hx; simp; omega
      rw [e1]; rfl
theorem till_take {l : List Ev} (h : evsOkB l = true) (t : Int) : till l t = l.take (till l t).length := by
  simp only [evsOkB, Bool.and_eq_true] at h
  exact till_prefix t h.2
theorem take_both {l : List Ev} (h : evsOkB l = true) (s t : Int) (n : Nat) (h1 : n ≤ (till l s).length) (h2 : n ≤ (till l t).length) : (till l s).take n = (till l t).take n := by
  rw [till_take h s, till_take h t, List.take_take, List.take_take]
  congr 1
  omega
theorem ok_each : ∀ {la : Int} {l : List Ev}, okFrom la l = true → ∀ x ∈ l, 1 ≤ x.at' ∧ x.at' ≤ 1000
  | la, e :: r, h, x, hx => by
    obtain ⟨h1, _, h3⟩ := okFrom_cons h
    rcases List.mem_cons.1 hx with rfl | hx
    · simp only [evOkB, decide_eq_true_eq] at h1
      omega
    · exact ok_each h3 x hx
theorem till_zero {l : List Ev} (h : evsOkB l = true) : till l 0 = [] := by
  simp only [evsOkB, Bool.and_eq_true] at h
  unfold till
  rw [List.filter_eq_nil_iff]
  intro x hx
  have := ok_each h.2 x hx
  simp; omega
theorem till_all {l : List Ev} (h : evsOkB l = true) : till l 1000 = l := by
  simp only [evsOkB, Bool.and_eq_true] at h
  unfold till
  rw [List.filter_eq_self]
  intro x hx
  have := ok_each h.2 x hx
  simp; omega
theorem okFrom_take : ∀ {la : Int} {l : List Ev} (n : Nat), okFrom la l = true → okFrom la (l.take n) = true
  | la, [], n, _ => by cases n <;> rfl
  | la, e :: r, 0, _ => rfl
  | la, e :: r, n + 1, h => by
    obtain ⟨h1, h2, h3⟩ := okFrom_cons h
    simp only [List.take_succ_cons, okFrom, Bool.and_eq_true, decide_eq_true_eq]
    exact ⟨⟨h1, h2⟩, okFrom_take n h3⟩
theorem till_ok {l : List Ev} (h : evsOkB l = true) (t : Int) : evsOkB (till l t) = true := by
  have h0 := h
  rw [till_take h t]
  simp only [evsOkB, Bool.and_eq_true, decide_eq_true_eq] at h0 ⊢
  exact ⟨by simp; omega, okFrom_take _ h0.2⟩
theorem Evs.take {w : World} {a : Option Addr} {l : List Ev} (h : Evs w a l) (n : Nat) : Evs w a (l.take n) := by
  refine ⟨by have := h.len; simp; omega, fun hl => ?_⟩
  obtain ⟨b, off, e, hlt, hc⟩ := h.cells (by simp at hl; omega)
  refine ⟨b, off, e, hlt, fun i hi => ?_⟩
  have hi' : i < l.length := by simp at hi; omega
  have := hc i hi'
  simpa using this
theorem own_cap {w : World} {B z : Nat} {t : TypeId} {v : Value} {n : Nat} {xs : List Value} (h : w.ownsRow B t z v n xs) : ∃ a cap, v = .slice a n cap ∧ n ≤ cap := by
  rcases h.2 with ⟨rfl, rfl⟩ | ⟨g, cap, cur, rfl, _, _, hn, _⟩
  · exact ⟨none, 0, rfl, Nat.le_refl _⟩
  · exact ⟨_, cap, rfl, hn⟩
set_option maxHeartbeats 4000000 in
theorem walk (a0 : Option Addr) (cap0 : Nat) (c0 : List Int) (a1 : Option Addr) (cap1 : Nat) (c1 : List Int) (w : World) (h0 : Bytes w a0 c0 ∧ c0.length ≤ cap0) (h1 : Bytes w a1 c1 ∧ c1.length ≤ cap1) :
    Calls Try.prog 4 #[.slice a0 c0.length cap0, .slice a1 c1.length cap1] w fun e w' => e = .returned (.bool true) ∧ Below w.heap.size w w' := by
  have hm0 := h0.1.len
  have hm1 := h1.1.len
  unfold maxLen at hm0 hm1
  by_cases hbig : (1048576 : Int) < (c0.length : Int)
  · go_enter Try.func4, Try.ntmps4
    go_wp2
    go_ret
    exact ⟨rfl, Below.refl _ _⟩
  by_cases hbig1 : (1048576 : Int) < (c1.length : Int)
  · go_enter Try.func4, Try.ntmps4
    go_wp2
    go_ret
    exact ⟨rfl, Below.refl _ _⟩
  have hd := drawEvsTill_any a0 cap0 c0 w h0.1 h0.2
  obtain ⟨r, hr, hr30⟩ := tmod_nat (a := (c1.length : Int)) (n := 30) (by omega) (by omega)
  go_enter Try.func4, Try.ntmps4
  go_wp2_with fail
  refine hd.mono ?_
  rintro e w1 ⟨v, l, t, rfl, hown, hl25, hb1⟩
  obtain ⟨al, cl, rfl, hO⟩ := evOwn_of hown
  have hE1 := hO.evs
  clear hd hown
  go_wp2_with fail
  refine (implEvsTill_any al cl l t w1 hE1 (by omega)).mono ?_
  rintro e w2 ⟨va, rfl, howna, hb2⟩
  obtain ⟨aa, ca, rfl, hca⟩ := own_cap howna
  obtain ⟨_, _, ea, hOa⟩ := evOwn_of howna
  cases ea
  have hEa := hOa.evs
  have hE2 := hE1.below hb2
  have b2 := hb1.trans (hb2.mono hb1.size)
  go_wp2_with fail
  refine (specEvsTill_any al cl l t w2 hE2 (by omega)).mono ?_
  rintro e w3 ⟨vs, rfl, howns, hb3⟩
  obtain ⟨ax, cx, rfl, hOs⟩ := evOwn_of howns
  have hEa3 := hEa.below hb3
  have hE3 := hE2.below hb3
  have b3 := b2.trans (hb3.mono b2.size)
  have hself := evsEqB_self (till l t)
  go_wp2_with fail
  refine (implEvsSame_any aa ax ca cx (till l t) (till l t) w3 hEa3 hOs.evs).mono ?_
  rintro e w4 ⟨rfl, hb4⟩
  have hEa4 := hEa3.below hb4
  have hE4 := hE3.below hb4
  have b4 := b3.trans (hb4.mono b3.size)
  rw [hself]
  clear hself howns howna
  go_wp2_with fail
  refine (implEvsTill_any al cl l (1 + (r : Int)) w4 hE4 (by omega)).mono ?_
  rintro e w5 ⟨vb, rfl, hownb, hb5⟩
  obtain ⟨ab, cb, rfl, hcb⟩ := own_cap hownb
  obtain ⟨_, _, eb, hOb⟩ := evOwn_of hownb
  cases eb
  have hEb5 := hOb.evs
  have hEa5 := hEa4.below hb5
  have hE5 := hE4.below hb5
  have b5 := b4.trans (hb5.mono b4.size)
  clear hownb
  go_wp2_with fail
  refine (specEvsOk_any al cl l w5 hE5).mono ?_
  rintro e w6 ⟨rfl, hb6⟩
  have hEb6 := hEb5.below hb6
  have hEa6 := hEa5.below hb6
  have hE6 := hE5.below hb6
  have b6 := b5.trans (hb6.mono b5.size)
  have hle := till_le l t
  have hleb := till_le l (1 + (r : Int))
  cases hok : evsOkB l
  · have hle' : ((till l t).length : Int) ≤ (l.length : Int) := by omega
    go_wp2
    go_ret
    exact ⟨rfl, b6⟩
  · have hz := till_zero hok
    have hall := till_all hok
    have hko := till_ok hok t
    have hboth := take_both hok t (1 + (r : Int))
    have hc0 : ∀ w', Below w6.heap.size w6 w' → Calls Try.prog 13 #[.slice al l.length cl, .int .i64 0] w' fun e w'' => (∃ a c, e = .returned (.slice a 0 c)) ∧ Below w'.heap.size w' w'' := fun w' hb => (implEvsTill_any al cl l 0 w' (hE6.below hb) (by omega)).mono (by
      rintro e w'' ⟨v, rfl, ho, hb'⟩
      rw [hz] at ho
      obtain ⟨a, c, rfl, _⟩ := own_cap ho
      exact ⟨⟨a, c, rfl⟩, hb'⟩)
    have hc1 : ∀ w', Below w6.heap.size w6 w' → Calls Try.prog 13 #[.slice al l.length cl, .int .i64 1000] w' fun e w'' => (∃ a c, e = .returned (.slice a l.length c) ∧ Evs w'' a l) ∧ Below w'.heap.size w' w'' := fun w' hb => (implEvsTill_any al cl l 1000 w' (hE6.below hb) (by omega)).mono (by
      rintro e w'' ⟨v, rfl, ho, hb'⟩
      rw [hall] at ho
      obtain ⟨a, c, rfl, hO⟩ := evOwn_of ho
      exact ⟨⟨a, c, rfl, hO.evs⟩, hb'⟩)
    have hc2 : ∀ (a : Option Addr) (c : Nat) w', Evs w' a l → Below w6.heap.size w6 w' → Calls Try.prog 9 #[.slice a l.length c, .slice al l.length cl] w' fun e w'' => e = .returned (.bool true) ∧ Below w'.heap.size w' w'' := fun a c w' hE hb => by
      have := implEvsSame_any a al c cl l l w' hE (hE6.below hb)
      rwa [evsEqB_self l] at this
    have hc3 : ∀ w', Below w6.heap.size w6 w' → Calls Try.prog 7 #[.slice aa (till l t).length ca] w' fun e w'' => e = .returned (.bool true) ∧ Below w'.heap.size w' w'' := fun w' hb => by
      have := implEvsOk_any aa ca (till l t) w' (hEa6.below hb)
      rwa [hko] at this
    have hc4 : ∀ (n : Nat) w', n ≤ (till l t).length → n ≤ (till l (1 + (r : Int))).length → Below w6.heap.size w6 w' → Calls Try.prog 9 #[.slice aa n ca, .slice ab n cb] w' fun e w'' => e = .returned (.bool true) ∧ Below w'.heap.size w' w'' := fun n w' h1 h2 hb => by
      have := implEvsSame_any aa ab ca cb _ _ w' (Evs.take (hEa6.below hb) n) (Evs.take (hEb6.below hb) n)
      rw [hboth n h1 h2, evsEqB_self] at this
      have e1 : ((till l t).take n).length = n := by simp; omega
      have e2 : ((till l (1 + (r : Int))).take n).length = n := by simp; omega
      rw [← hboth n h1 h2, e1] at this
      exact this
    have hbd6 : Below w6.heap.size w6 w6.drew := (Below.refl _ _).drew
    clear hz hall hko hboth hok hEa hEa3 hEa4 hEa5 hEb5 hE1 hE2 hE3 hE4 hE5 hOa hOb hOs hO
    generalize hLa : (till l t).length = La at *
    generalize hLb : (till l (1 + (r : Int))).length = Lb at *
    clear hLa hLb hEa6 hEb6
    by_cases hlt : (Lb : Int) < (La : Int)
    · have hLL : Lb ≤ La := by omega
      have h4 := fun w' => hc4 Lb w' hLL (Nat.le_refl _)
      clear hc4
      go_wp2_with fail
      go_region_with (first
        | (go_at_call 7; refine (hc3 _ (hbd6.trans ((hb7.trans ((hb8.trans ((hb9.trans (hb10.mono hb9.size)).mono hb8.size)).mono hb7.size)).mono hbd6.size))).mono ?_; rintro e w11 ⟨rfl, hb11⟩)
        | (go_at_call 9; have kk := hb9; clear kk; refine (hc2 _ _ _ hE9 (hbd6.trans ((hb7.trans ((hb8.trans (hb9.mono hb8.size)).mono hb7.size)).mono hbd6.size))).mono ?_; rintro e w10 ⟨rfl, hb10⟩)
        | (go_at_call 13; have kk := hb8; clear kk; refine (hc1 _ (hbd6.trans ((hb7.trans (hb8.mono hb7.size)).mono hbd6.size))).mono ?_; rintro e w9 ⟨⟨a9, c9, rfl, hE9⟩, hb9⟩)
        | (go_at_call 13; refine (hc0 _ (hbd6.trans (hb7.mono hbd6.size))).mono ?_; rintro e w8 ⟨⟨a8, c8, rfl⟩, hb8⟩)
        | (go_at_call 9; refine (h4 _ hbd6).mono ?_; rintro e w7 ⟨rfl, hb7⟩))
      all_goals go_wp2
      all_goals go_ret
      all_goals exact ⟨rfl, b6.trans ((hbd6.trans ((hb7.trans ((hb8.trans ((hb9.trans ((hb10.trans (hb11.mono hb10.size)).mono hb9.size)).mono hb8.size)).mono hb7.size)).mono hbd6.size)).mono b6.size)⟩
    · have hLL : La ≤ Lb := by omega
      have h4 := fun w' => hc4 La w' (Nat.le_refl _) hLL
      clear hc4
      go_wp2_with fail
      go_region_with (first
        | (go_at_call 7; refine (hc3 _ (hbd6.trans ((hb7.trans ((hb8.trans ((hb9.trans (hb10.mono hb9.size)).mono hb8.size)).mono hb7.size)).mono hbd6.size))).mono ?_; rintro e w11 ⟨rfl, hb11⟩)
        | (go_at_call 9; have kk := hb9; clear kk; refine (hc2 _ _ _ hE9 (hbd6.trans ((hb7.trans ((hb8.trans (hb9.mono hb8.size)).mono hb7.size)).mono hbd6.size))).mono ?_; rintro e w10 ⟨rfl, hb10⟩)
        | (go_at_call 13; have kk := hb8; clear kk; refine (hc1 _ (hbd6.trans ((hb7.trans (hb8.mono hb7.size)).mono hbd6.size))).mono ?_; rintro e w9 ⟨⟨a9, c9, rfl, hE9⟩, hb9⟩)
        | (go_at_call 13; refine (hc0 _ (hbd6.trans (hb7.mono hbd6.size))).mono ?_; rintro e w8 ⟨⟨a8, c8, rfl⟩, hb8⟩)
        | (go_at_call 9; refine (h4 _ hbd6).mono ?_; rintro e w7 ⟨rfl, hb7⟩))
      all_goals go_wp2
      all_goals go_ret
      all_goals exact ⟨rfl, b6.trans ((hbd6.trans ((hb7.trans ((hb8.trans ((hb9.trans ((hb10.trans (hb11.mono hb10.size)).mono hb9.size)).mono hb8.size)).mono hb7.size)).mono hbd6.size)).mono b6.size)⟩

set_option maxRecDepth 100000 in
theorem lifted (os : Os) (started : os.Started) (H : Type) (enc : TypeId × Value → H) :
    ReturnsInHanded {} Try.checked os 4 .any (Rows.fnEvTillSpec.pre6 enc Try.prog Try.f4 Rows.fnEvTillRow.domain false) (Rows.fnEvTillSpec.post enc Try.prog Try.f4 false true false false) := by
  refine returnsInHanded_of_change (C := Try.checked) own started (by kernel_rfl) Try.func4
    (ChangeSpec.witness6 (enc := enc) (C := Try.checked) false ⟨#[], #[.slice none 0 0, .slice none 0 0], []⟩ 8 (by kernel_rfl) (by kernel_rfl) (by kernel_rfl) (by kernel_rfl)) ?_
  intro W base args ds gs before hval0 hW hcnd _
  have hval : ∀ (j : Nat) t v, Try.f4.params[j]? = some t → args[j]? = some v → Value.okWide Try.prog W .any base t v := hval0
  have hW' := hW
  obtain ⟨p, q, hA0, hV, rfl, hfz, hnd⟩ := hW
  have hA : DataW.TrodAll enc Try.prog W 0 (fun _ => true) true Try.f4.params.toList args.toList ds p := hA0
  rw [Try.params4] at hA hval
  obtain ⟨v0, vs0, d0, ds0, p0, q0, hargs, rfl, rfl, h0, r0⟩ := trodAll_cons hA
  obtain ⟨v1, vs1, d1, ds1, p1, q1, rfl, rfl, rfl, h1, r1⟩ := trodAll_cons r0
  obtain ⟨rfl, rfl, rfl⟩ := trodAll_nil r1
  obtain rfl : args = #[v0, v1] := by cases args; simp_all
  obtain ⟨rfl, rfl⟩ := trodVars_none hV
  have k0 := h0
  have lt0 : ∀ x ∈ p0, x.block < W.heap.size := by obtain ⟨m, hm⟩ := k0; exact DataW.trod_lt m _ _ _ hm
  have k1 := h1
  have lt1 : ∀ x ∈ p1, x.block < W.heap.size := by obtain ⟨m, hm⟩ := k1; exact DataW.trod_lt m _ _ _ hm
  obtain ⟨a0, cap0, bs0, rfl, e0⟩ := open_bytes (hval 0 22 v0 rfl rfl) h0
  obtain ⟨a1, cap1, bs1, rfl, e1⟩ := open_bytes (hval 1 22 v1 rfl rfl) h1
  clear hA0 hval0
  refine (walk a0 cap0 bs0 a1 cap1 bs1 W e0 e1).mono fun e W' ⟨he, bel⟩ => ?_
  subst he
  exact ⟨_, rfl, _, _, _, [], _, [], hW', trodAll_mk1 (shut_bool Try.underlying4 _), (trodAll_cons_mk (Below.trod laidOut (by kernel_rfl) (of_decide_eq_true (by kernel_rfl)) k0 bel lt0) (trodAll_cons_mk (Below.trod laidOut (by kernel_rfl) (of_decide_eq_true (by kernel_rfl)) k1 bel lt1) trodAll_mk0)), rfl, bel.frame _, fun h => by cases h⟩

theorem over : Rows.fnEvTillRow.holds Try.pinned (OpenSpec.ofChange Rows.fnEvTillSpec) :=
  OpenClaim.holds_of_wide 4 Try.f4 rfl rfl rfl rfl rfl rfl rfl ⟨rfl, rfl, rfl, rfl, rfl⟩ rfl rfl rfl rfl rfl (by kernel_rfl) Try.func4 (by kernel_rfl)
    (of_decide_eq_true (by kernel_rfl)) (by unfold Func.isWrapper; first | (rw [if_pos (by decide +kernel)]; kernel_rfl) | (rw [if_neg (by decide +kernel)]; exact ⟨rfl, rfl⟩))
    (fun os started H enc _ => lifted os started H enc)
end Go.Proofs.Ytfmldbnjlnpdpaa.fnEvTill
namespace Go.Proofs.Ytfmldbnjlnpdpaa
theorem fnEvTill_holds : Rows.FnEvTillSaid := fnEvTill.over
#print axioms fnEvTill_holds
end Go.Proofs.Ytfmldbnjlnpdpaa

