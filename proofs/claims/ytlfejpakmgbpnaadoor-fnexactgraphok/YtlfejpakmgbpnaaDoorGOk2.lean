/- Parts of a graph: are they ok, by the program and by the specification. -/
import Derived.Test.YtlfejpakmgbpnaaDoorGOk1
import Derived.WalkSmall
namespace Go.Proofs.YtlfejpakmgbpnaaDoor
open Go.ChangeShapes Go.WideShapes Go.ChangeAt Go.RowKit Go.Deep
set_option linter.unusedVariables false
set_option maxRecDepth 4000

/-- How many parts one of a kind has. -/
def kidsG (kd : Int) : Int := if kd = 1 then 0 else if kd = 7 then 1 else if kd = 2 ∨ kd = 3 ∨ kd = 4 then 2 else if kd = 5 ∨ kd = 6 then 3 else -1
theorem kidsG_in {kd : Int} {n : Nat} (h : kidsG kd = n) : 1 ≤ kd ∧ kd ≤ 7 := by
  unfold kidsG at h
  split at h
  · omega
  split at h
  · omega
  split at h
  · omega
  split at h <;> omega
theorem specKidsG_any (kd : Int) (w : World) :
    Calls Tryd.prog 19 #[.int .i64 kd] w fun e w' => e = .returned (.int .i64 (kidsG kd)) ∧ Below w.heap.size w w' := by
  rcases (show kd = 1 ∨ kd = 2 ∨ kd = 3 ∨ kd = 4 ∨ kd = 5 ∨ kd = 6 ∨ kd = 7 ∨ (kd ≠ 1 ∧ kd ≠ 2 ∧ kd ≠ 3 ∧ kd ≠ 4 ∧ kd ≠ 5 ∧ kd ≠ 6 ∧ kd ≠ 7) by omega) with rfl | rfl | rfl | rfl | rfl | rfl | rfl | ⟨h1, h2, h3, h4, h5, h6, h7⟩
  iterate 7
    · go_enter Tryd.func19, Tryd.ntmps19
      go_wp2
      go_ret
      exact ⟨rfl, Below.refl _ _⟩
  · have hx : kidsG kd = -1 := by simp [kidsG, h1, h2, h3, h4, h5, h6, h7]
    rw [hx]
    have b1 : (kd == 1) = false := by simpa using h1
    have b2 : (kd == 2) = false := by simpa using h2
    have b3 : (kd == 3) = false := by simpa using h3
    have b4 : (kd == 4) = false := by simpa using h4
    have b5 : (kd == 5) = false := by simpa using h5
    have b6 : (kd == 6) = false := by simpa using h6
    have b7 : (kd == 7) = false := by simpa using h7
    clear hx h1 h2 h3 h4 h5 h6 h7
    go_enter Tryd.func19, Tryd.ntmps19
    go_wp2
    go_ret
    exact ⟨rfl, Below.refl _ _⟩

theorem gbel1 (w : World) (o : Obj) : Below w.heap.size w (w.alloc o) := (Below.refl _ _).alloc (Nat.le_refl _) _
/-- A kind, behind its interface: how many parts one has. -/
structure KindG (kd : Int) (T : TypeId) (V : Value) (K : Nat) : Prop where
  kids : ∀ w, Sem.run Tryd.prog (method 245 T V "loop.example/bellman/impl.kids") w = .ok (K, V) w
  enter : ∀ w, Sem.run Tryd.prog (callFunc K #[V]) w = .ok (.enter K #[V]) w
  any : ∀ w, Calls Tryd.prog K #[V] w fun e w' => e = .returned (.int .i64 (kidsG kd)) ∧ Below w.heap.size w w'
set_option maxHeartbeats 400000 in
theorem kindGSym : KindG 1 89 (.agg #[]) 84 where
  kids := fun _ => by kernel_rfl
  enter := fun _ => by kernel_rfl
  any := fun w => by
    go_enter Tryd.func84, Tryd.ntmps84
    go_wp2
    go_ret
    exact ⟨rfl, gbel1 _ _⟩
set_option maxHeartbeats 400000 in
theorem kindGPlus : KindG 7 92 (.agg #[]) 92 where
  kids := fun _ => by kernel_rfl
  enter := fun _ => by kernel_rfl
  any := fun w => by
    go_enter Tryd.func92, Tryd.ntmps92
    go_wp2
    go_ret
    exact ⟨rfl, gbel1 _ _⟩
set_option maxHeartbeats 400000 in
theorem kindGJoin (kd many : Int) (s : ByteArray) (hk : kidsG kd = many) : KindG kd 91 (.agg #[.int .i64 kd, .string s, .int .i64 many]) 88 where
  kids := fun _ => by kernel_rfl
  enter := fun _ => by kernel_rfl
  any := fun w => by
    rw [hk]
    go_enter Tryd.func88, Tryd.ntmps88
    go_wp2
    go_ret
    exact ⟨rfl, gbel1 _ _⟩
set_option maxHeartbeats 1000000 in
theorem kindG_any (kd : Int) (h : 1 ≤ kd ∧ kd ≤ 7) :
    ∃ T V K, KindG kd T V K ∧ ∀ w, Calls Tryd.prog 24 #[.int .i64 kd] w fun e w' => e = .returned (.iface T V) ∧ Below w.heap.size w w' := by
  rcases (show kd = 1 ∨ kd = 2 ∨ kd = 3 ∨ kd = 4 ∨ kd = 5 ∨ kd = 6 ∨ kd = 7 by omega) with rfl | rfl | rfl | rfl | rfl | rfl | rfl
  · refine ⟨_, _, _, kindGSym, fun w => ?_⟩
    go_enter Tryd.func24, Tryd.ntmps24
    go_wp2
    go_ret
    exact ⟨rfl, Below.refl _ _⟩
  · refine ⟨_, _, _, kindGJoin 2 2 { data := #[111, 114] } (by decide), fun w => ?_⟩
    go_enter Tryd.func24, Tryd.ntmps24
    go_wp2
    go_ret
    exact ⟨rfl, Below.refl _ _⟩
  · refine ⟨_, _, _, kindGJoin 3 2 { data := #[97, 110, 100] } (by decide), fun w => ?_⟩
    go_enter Tryd.func24, Tryd.ntmps24
    go_wp2
    go_ret
    exact ⟨rfl, Below.refl _ _⟩
  · refine ⟨_, _, _, kindGJoin 4 2 { data := #[115, 101, 113] } (by decide), fun w => ?_⟩
    go_enter Tryd.func24, Tryd.ntmps24
    go_wp2
    go_ret
    exact ⟨rfl, Below.refl _ _⟩
  · refine ⟨_, _, _, kindGJoin 5 3 { data := #[110, 111, 116] } (by decide), fun w => ?_⟩
    go_enter Tryd.func24, Tryd.ntmps24
    go_wp2
    go_ret
    exact ⟨rfl, Below.refl _ _⟩
  · refine ⟨_, _, _, kindGJoin 6 3 { data := #[101, 97, 99, 104] } (by decide), fun w => ?_⟩
    go_enter Tryd.func24, Tryd.ntmps24
    go_wp2
    go_ret
    exact ⟨rfl, Below.refl _ _⟩
  · refine ⟨_, _, _, kindGPlus, fun w => ?_⟩
    go_enter Tryd.func24, Tryd.ntmps24
    go_wp2
    go_ret
    exact ⟨rfl, Below.refl _ _⟩

theorem within_below (n lo hi : Int) (w : World) :
    Calls Tryd.prog 14 #[.int .i64 n, .int .i64 lo, .int .i64 hi] w fun e w' => e = .returned (.bool (decide (lo ≤ n) && decide (n ≤ hi))) ∧ Below w.heap.size w w' :=
  (within_any n lo hi w).mono fun e w' ⟨h1, h2⟩ => ⟨h1, h2 ▸ Below.refl _ _⟩

def fitG (kd nn : Int) : Bool := if kd = 7 then decide (1 ≤ nn) && decide (nn ≤ 20) else decide (0 ≤ nn) && decide (nn ≤ 0)
/-- It is a part, of parts ahead of it. -/
def partB (x : Nd) (place : Int) : Bool := (decide (1 ≤ x.kd) && decide (x.kd ≤ 7)) && decide (kidsG x.kd = x.ks.length) && !(x.ks.any (badK place)) && ((decide (0 ≤ x.sy) && decide (x.sy ≤ 4)) && fitG x.kd x.nn)
/-- It may hold at a time what it does. -/
def holdB (x : Nd) (now : Int) : Bool := !(decide (x.kd ≠ 7) && decide (0 < x.du.length)) && !(x.du.any (lateO now)) && ((decide (0 ≤ x.mn) && decide (x.mn ≤ 40)) && pairOkB x.pl x.pr && spanOkB x.sl x.sm && occsOkB x.du)

set_option maxHeartbeats 4000000 in
theorem nodeIsPart_any (x : Nd) (p : NA) (y : Int) (w : World) (h : NdIn w p x) (hy0 : 0 ≤ y) (hy1 : y ≤ 1000) :
    Calls Tryd.prog 15 #[ndV x p, .int .i64 y] w fun e w' => e = .returned (.bool (partB x y)) ∧ Below w.heap.size w w' := by
  obtain ⟨G, hG⟩ : ∃ G, partB x y = G := ⟨_, rfl⟩
  rw [hG]
  have HG : Hid (partB x y = G) := hG
  clear hG
  obtain ⟨w0, hw0⟩ : ∃ w0, w.alloc (.cells (ndC x p) 43) = w0 := ⟨_, rfl⟩
  have hA0 := bx_new w (ndC x p) 43
  have b0 := oBelow_new w (.cells (ndC x p) 43)
  rw [hw0] at hA0 b0
  obtain ⟨A, hA⟩ : ∃ A, w.heap.size = A := ⟨_, rfl⟩
  rw [hA] at hA0
  obtain ⟨w1, hw1⟩ : ∃ w1, w0.alloc (.cells #[.int .i64 y] 3) = w1 := ⟨_, rfl⟩
  have hP0 : (w0.alloc (.cells #[.int .i64 y] 3)).cell? ⟨w0.heap.size, 0, none⟩ = some (.int .i64 y) := oCell (heap_alloc_new w0 _) 0
  have b01 := oBelow_new w0 (.cells #[.int .i64 y] 3)
  rw [hw1] at hP0 b01
  have hA1 := hA0.below b01
  have b1 := b0.trans (b01.mono b0.size)
  obtain ⟨P, hPe⟩ : ∃ P, w0.heap.size = P := ⟨_, rfl⟩
  rw [hPe] at hP0
  have hi := h.below b1
  clear b0 b01 hA0
  obtain ⟨q0, q1, q2, q3, q4, q5, q6, q7, q8, q9⟩ := hA1.ten
  simp only [Nat.zero_add] at q0 q1 q2 q3 q4 q5 q6 q7 q8 q9
  have hAl := hA1.lt
  unfold ndV
  unfold ndC at hw0 ⊢
  have hln := h.ks.len
  unfold maxLen at hln
  have a0 := fun u : After w1 => u.cell q0 hAl
  have a3 := fun u : After w1 => u.cell q3 hAl
  by_cases h0 : 1 ≤ x.kd ∧ x.kd ≤ 7
  case neg =>
    have hd : (decide (1 ≤ x.kd) && decide (x.kd ≤ 7)) = false := by simp; omega
    have hw := fun w => within_below x.kd 1 7 w
    rw [hd] at hw
    have hf : partB x y = false := by simp only [partB, hd]; rfl
    clear h0 hd
    go_enter Tryd.func15, Tryd.ntmps15
    go_wp2_with fail
    have hany := after_any
    refine wp_region_after (by kernel_rfl) (by kernel_rfl) ?_
    repeat (go_big_quiet_step ((go_at_call 14; refine calls_after (hw _))))
    refine wpQuiet_nil ?_
    intro w2 hu
    have hbe := b1.trans ((after_of hu).mono b1.size)
    clear hu
    go_wp2
    go_ret
    exact ⟨ret_bool (by rw [← HG.out, hf]), hbe⟩
  have hd : (decide (1 ≤ x.kd) && decide (x.kd ≤ 7)) = true := by simp; omega
  have hw := fun w => within_below x.kd 1 7 w
  rw [hd] at hw
  obtain ⟨T, V, K, hK, hcall⟩ := kindG_any x.kd h0
  have m1 := hK.kids
  have m3 := hK.enter
  have hkc := hK.any
  by_cases h1 : kidsG x.kd = (x.ks.length : Int)
  case neg =>
    have bk : ((x.ks.length : Int) != kidsG x.kd) = true := by simp; omega
    have hf : partB x y = false := by simp [partB, h1]
    clear h0 h1 hd
    go_enter Tryd.func15, Tryd.ntmps15
    go_wp2_with fail
    have hany := after_any
    refine wp_region_after (by kernel_rfl) (by kernel_rfl) ?_
    repeat (go_big_quiet_step ((first | (go_at_call 14; refine calls_after (hw _)) | (go_at_call 24; refine calls_after (hcall _)) | refine calls_after (hkc _))))
    refine wpQuiet_nil ?_
    intro w2 hu
    have hbe := b1.trans ((after_of hu).mono b1.size)
    clear hu
    go_wp2
    go_ret
    exact ⟨ret_bool (by rw [← HG.out, hf]), hbe⟩
  have bk : ((x.ks.length : Int) != kidsG x.kd) = false := by simp [h1]
  have hf : Hid (partB x y = (!(x.ks.any (badK y)) && ((decide (0 ≤ x.sy) && decide (x.sy ≤ 4)) && fitG x.kd x.nn))) := by show _ = _; simp only [partB, hd, h1]; simp
  clear h0 h1 hd
  go_enter Tryd.func15, Tryd.ntmps15
  go_wp2_with fail
  have hany := after_any
  refine wp_region_after (by kernel_rfl) (by kernel_rfl) ?_
  repeat (go_big_quiet_step ((first | (go_at_call 14; refine calls_after (hw _)) | (go_at_call 24; refine calls_after (hcall _)) | refine calls_after (hkc _))))
  refine wpQuiet_nil ?_
  intro w2 hu
  have hb2 := after_of hu
  have b2 := b1.trans (hb2.mono b1.size)
  have hA2 := hA1.below hb2
  have hP2 := (hb2.cell (p := ⟨P, 0, none⟩) (block_lt hP0)).trans hP0
  clear hu q0 q1 q2 q3 q4 q5 q6 q7 q8 q9 a0 a3 m1 m3 hkc hcall hw bk hw0 hw1
  obtain ⟨q0, q1, q2, q3, q4, q5, q6, q7, q8, q9⟩ := hA2.ten
  simp only [Nat.zero_add] at q0 q1 q2 q3 q4 q5 q6 q7 q8 q9
  go_wp2_with fail
  refine (hasInts_any P y _ _ x.ks _ hP2 hy0 hy1 (hi.ks.below hb2)).mono ?_
  rintro e w3 ⟨rfl, hb3⟩
  have b3 := b2.trans (hb3.mono b2.size)
  have hA3 := hA2.below hb3
  clear q0 q1 q2 q3 q4 q5 q6 q7 q8 q9
  obtain ⟨q0, q1, q2, q3, q4, q5, q6, q7, q8, q9⟩ := hA3.ten
  simp only [Nat.zero_add] at q0 q1 q2 q3 q4 q5 q6 q7 q8 q9
  cases g1 : x.ks.any (badK y)
  case true =>
    have G1 : Hid (x.ks.any (badK y) = true) := g1
    clear g1
    go_wp2
    go_ret
    exact ⟨ret_bool (by rw [← HG.out, hf.out, G1.out]; rfl), b3⟩
  have G1 : Hid (x.ks.any (badK y) = false) := g1
  clear g1
  have hsy := fun w => within_any x.sy 0 4 w
  cases g2 : (decide (0 ≤ x.sy) && decide (x.sy ≤ 4))
  case false =>
    have G2 : Hid ((decide (0 ≤ x.sy) && decide (x.sy ≤ 4)) = false) := g2
    rw [g2] at hsy
    clear g2
    by_cases h7 : x.kd = 7
    · have n7 : (x.kd == 7) = true := by simpa using h7
      clear h7
      go_wp2_with fail
      refine (hsy _).mono ?_
      rintro e w4 ⟨rfl, rfl⟩
      go_wp2
      go_ret
      exact ⟨ret_bool (by rw [← HG.out, hf.out, G1.out, G2.out]; rfl), b3⟩
    · have n7 : (x.kd == 7) = false := by simpa using h7
      clear h7
      go_wp2_with fail
      refine (hsy _).mono ?_
      rintro e w4 ⟨rfl, rfl⟩
      go_wp2
      go_ret
      exact ⟨ret_bool (by rw [← HG.out, hf.out, G1.out, G2.out]; rfl), b3⟩
  have G2 : Hid ((decide (0 ≤ x.sy) && decide (x.sy ≤ 4)) = true) := g2
  rw [g2] at hsy
  clear g2
  by_cases h7 : x.kd = 7
  · have n7 : (x.kd == 7) = true := by simpa using h7
    have hft : fitG x.kd x.nn = (decide (1 ≤ x.nn) && decide (x.nn ≤ 20)) := by simp [fitG, h7]
    clear h7
    go_wp2_with fail
    refine (hsy _).mono ?_
    rintro e w4 ⟨rfl, rfl⟩
    go_wp2_with fail
    refine (within_any x.nn 1 20 _).mono ?_
    rintro e w5 ⟨rfl, rfl⟩
    rw [← hft]
    clear hft
    obtain ⟨f, hfe⟩ : ∃ f, fitG x.kd x.nn = f := ⟨_, rfl⟩
    rw [hfe]
    have Hfe : Hid (fitG x.kd x.nn = f) := hfe
    clear hfe
    go_wp2
    go_ret
    exact ⟨ret_bool (by rw [← HG.out, hf.out, G1.out, G2.out, Hfe.out]; rfl), b3⟩
  · have n7 : (x.kd == 7) = false := by simpa using h7
    have hft : fitG x.kd x.nn = (decide (0 ≤ x.nn) && decide (x.nn ≤ 0)) := by simp [fitG, h7]
    clear h7
    go_wp2_with fail
    refine (hsy _).mono ?_
    rintro e w4 ⟨rfl, rfl⟩
    go_wp2_with fail
    refine (within_any x.nn 0 0 _).mono ?_
    rintro e w5 ⟨rfl, rfl⟩
    rw [← hft]
    clear hft
    obtain ⟨f, hfe⟩ : ∃ f, fitG x.kd x.nn = f := ⟨_, rfl⟩
    rw [hfe]
    have Hfe : Hid (fitG x.kd x.nn = f) := hfe
    clear hfe
    go_wp2
    go_ret
    exact ⟨ret_bool (by rw [← HG.out, hf.out, G1.out, G2.out, Hfe.out]; rfl), b3⟩

set_option maxHeartbeats 4000000 in
theorem nodeHolds_any (x : Nd) (p : NA) (y : Int) (w : World) (h : NdIn w p x) :
    Calls Tryd.prog 16 #[ndV x p, .int .i64 y] w fun e w' => e = .returned (.bool (holdB x y)) ∧ Below w.heap.size w w' := by
  obtain ⟨G, hG⟩ : ∃ G, holdB x y = G := ⟨_, rfl⟩
  rw [hG]
  have HG : Hid (holdB x y = G) := hG
  clear hG
  obtain ⟨w0, hw0⟩ : ∃ w0, w.alloc (.cells (ndC x p) 43) = w0 := ⟨_, rfl⟩
  have hA0 := bx_new w (ndC x p) 43
  have b0 := oBelow_new w (.cells (ndC x p) 43)
  rw [hw0] at hA0 b0
  obtain ⟨A, hA⟩ : ∃ A, w.heap.size = A := ⟨_, rfl⟩
  rw [hA] at hA0
  obtain ⟨w1, hw1⟩ : ∃ w1, w0.alloc (.cells #[.int .i64 y] 3) = w1 := ⟨_, rfl⟩
  have hP0 : (w0.alloc (.cells #[.int .i64 y] 3)).cell? ⟨w0.heap.size, 0, none⟩ = some (.int .i64 y) := oCell (heap_alloc_new w0 _) 0
  have b01 := oBelow_new w0 (.cells #[.int .i64 y] 3)
  rw [hw1] at hP0 b01
  have hA1 := hA0.below b01
  have b1 := b0.trans (b01.mono b0.size)
  obtain ⟨P, hPe⟩ : ∃ P, w0.heap.size = P := ⟨_, rfl⟩
  rw [hPe] at hP0
  have hi := h.below b1
  clear b0 b01 hA0
  obtain ⟨q0, q1, q2, q3, q4, q5, q6, q7, q8, q9⟩ := hA1.ten
  simp only [Nat.zero_add] at q0 q1 q2 q3 q4 q5 q6 q7 q8 q9
  have hAl := hA1.lt
  unfold ndV
  unfold ndC at hw0 ⊢
  have hln := h.du.len
  unfold maxLen at hln
  by_cases hbad : x.kd ≠ 7 ∧ 0 < x.du.length
  case pos =>
    have n7 : (x.kd != 7) = true := by simpa using hbad.1
    have nl : (0 : Int) < (x.du.length : Int) := by omega
    have nl' : decide ((0 : Int) < (x.du.length : Int)) = true := by simpa using nl
    have hf : holdB x y = false := by simp [holdB, hbad.1, hbad.2]
    clear hbad
    go_enter Tryd.func16, Tryd.ntmps16
    go_wp2
    go_ret
    exact ⟨ret_bool (by rw [← HG.out, hf]), b1⟩
  have hf : Hid (holdB x y = (!(x.du.any (lateO y)) && ((decide (0 ≤ x.mn) && decide (x.mn ≤ 40)) && pairOkB x.pl x.pr && spanOkB x.sl x.sm && occsOkB x.du))) := by
    show _ = _
    have : (decide (x.kd ≠ 7) && decide (0 < x.du.length)) = false := by
      cases hq : (decide (x.kd ≠ 7) && decide (0 < x.du.length))
      · rfl
      · simp only [Bool.and_eq_true, decide_eq_true_eq] at hq; exact absurd hq hbad
    unfold holdB
    rw [this]; simp
  have start : Calls Tryd.prog 27 #[.slice p.a5 x.du.length p.c5, .func (.func 28) #[] #[.pointer (some ⟨P, 0, none⟩)]] w1 fun e w' => e = .returned (.bool (x.du.any (lateO y))) ∧ Below w1.heap.size w1 w' := hasOccs_any P y _ _ x.du _ hP0 hi.du
  have hm : ∀ w3, Below w1.heap.size w1 w3 → Calls Tryd.prog 14 #[.int .i64 x.mn, .int .i64 0, .int .i64 40] w3 fun e w' => e = .returned (.bool (decide (0 ≤ x.mn) && decide (x.mn ≤ 40))) ∧ w' = w3 := fun w3 _ => within_any x.mn 0 40 w3
  rcases (show (x.kd = 7) ∨ (x.kd ≠ 7 ∧ x.du.length = 0) by omega) with h7 | ⟨h7, hl0⟩
  case' inl =>
    have n7 : (x.kd != 7) = false := by simpa using h7
    clear h7 hbad
  case' inr =>
    have n7 : (x.kd != 7) = true := by simpa using h7
    have nl : ¬ (0 : Int) < (x.du.length : Int) := by omega
    have nl' : decide ((0 : Int) < (x.du.length : Int)) = false := by simpa using nl
    clear h7 hbad hl0
  all_goals
    go_enter Tryd.func16, Tryd.ntmps16
    go_wp2_with fail
    refine start.mono ?_
    rintro e w3 ⟨rfl, hb3⟩
    clear start hw0 hw1
    have b3 := b1.trans (hb3.mono b1.size)
    have hA3 := hA1.below hb3
    have hi3 := hi.below hb3
    clear q0 q1 q2 q3 q4 q5 q6 q7 q8 q9
    obtain ⟨q0, q1, q2, q3, q4, q5, q6, q7, q8, q9⟩ := hA3.ten
    simp only [Nat.zero_add] at q0 q1 q2 q3 q4 q5 q6 q7 q8 q9
    cases g1 : x.du.any (lateO y)
    case true =>
      have G1 : Hid (x.du.any (lateO y) = true) := g1
      clear g1
      go_wp2
      go_ret
      exact ⟨ret_bool (by rw [← HG.out, hf.out, G1.out]; rfl), b3⟩
    have G1 : Hid (x.du.any (lateO y) = false) := g1
    clear g1
    go_wp2_with fail
    refine (hm _ hb3).mono ?_
    rintro e w3b ⟨rfl, rfl⟩
    cases g2 : (decide (0 ≤ x.mn) && decide (x.mn ≤ 40))
    case false =>
      have G2 : Hid ((decide (0 ≤ x.mn) && decide (x.mn ≤ 40)) = false) := g2
      clear g2
      go_wp2
      go_ret
      exact ⟨ret_bool (by rw [← HG.out, hf.out, G1.out, G2.out]; simp), b3⟩
    have G2 : Hid ((decide (0 ≤ x.mn) && decide (x.mn ≤ 40)) = true) := g2
    clear g2
    go_wp2_with fail
    refine (implPairOk_any _ _ _ _ x.pl x.pr _ hi3.pl hi3.pr).mono ?_
    rintro e w4 ⟨rfl, hb4⟩
    have b4 := b3.trans (hb4.mono b3.size)
    have hA4 := hA3.below hb4
    have hi4 := hi3.below hb4
    clear q0 q1 q2 q3 q4 q5 q6 q7 q8 q9
    obtain ⟨q0, q1, q2, q3, q4, q5, q6, q7, q8, q9⟩ := hA4.ten
    simp only [Nat.zero_add] at q0 q1 q2 q3 q4 q5 q6 q7 q8 q9
    cases g3 : pairOkB x.pl x.pr
    case false =>
      have G3 : Hid (pairOkB x.pl x.pr = false) := g3
      clear g3
      go_wp2
      go_ret
      exact ⟨ret_bool (by rw [← HG.out, hf.out]; simp [G3.out]), b4⟩
    have G3 : Hid (pairOkB x.pl x.pr = true) := g3
    clear g3
    go_wp2_with fail
    refine (implSpanOk_any _ _ _ _ x.sl x.sm _ hi4.sl hi4.sm).mono ?_
    rintro e w5 ⟨rfl, hb5⟩
    have b5 := b4.trans (hb5.mono b4.size)
    have hA5 := hA4.below hb5
    have hi5 := hi4.below hb5
    clear q0 q1 q2 q3 q4 q5 q6 q7 q8 q9
    obtain ⟨q0, q1, q2, q3, q4, q5, q6, q7, q8, q9⟩ := hA5.ten
    simp only [Nat.zero_add] at q0 q1 q2 q3 q4 q5 q6 q7 q8 q9
    cases g4 : spanOkB x.sl x.sm
    case false =>
      have G4 : Hid (spanOkB x.sl x.sm = false) := g4
      clear g4
      go_wp2
      go_ret
      exact ⟨ret_bool (by rw [← HG.out, hf.out]; simp [G4.out]), b5⟩
    have G4 : Hid (spanOkB x.sl x.sm = true) := g4
    clear g4
    go_wp2_with fail
    refine (implOccsOk_any _ _ x.du _ hi5.du).mono ?_
    rintro e w6 ⟨rfl, hb6⟩
    have b6 := b5.trans (hb6.mono b5.size)
    obtain ⟨f, hfe⟩ : ∃ f, occsOkB x.du = f := ⟨_, rfl⟩
    rw [hfe]
    have Hfe : Hid (occsOkB x.du = f) := hfe
    clear hfe
    go_wp2
    go_ret
    exact ⟨ret_bool (by rw [← HG.out, hf.out, G1.out, G2.out, G3.out, G4.out, Hfe.out]; rfl), b6⟩
end Go.Proofs.YtlfejpakmgbpnaaDoor
