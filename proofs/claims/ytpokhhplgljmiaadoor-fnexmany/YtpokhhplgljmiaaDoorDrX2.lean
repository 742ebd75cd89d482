/- What is looked for, copied by the draws. -/
import Derived.Test.YtpokhhplgljmiaaDoorDrX1
namespace Go.Proofs.YtpokhhplgljmiaaDoor
open Go.ChangeShapes Go.WideShapes Go.ChangeAt Go.RowKit Go.Deep
set_option linter.unusedVariables false
set_option maxRecDepth 4000
theorem below_none {w w' : World} (h : w.grownBy w' none) : Below w.heap.size w w' := ⟨h.1, h.2, h.3, h.4, fun i hi => h.5 i hi (fun e => by cases e)⟩
/-- A kid is put behind the kids: what the append does. -/
theorem kin_run0 {wr w6 : World} {X : Nat} {kd sy n kd' sy' n' : Int} {u : Value} {q : List Hd} {a' : Option Addr} {len cap' : Nat} (hX : PBox wr X kd sy n u) (hown : wr.ownsRow (X + 1) 25 4 u q.length (hdCells q)) (hg6 : wr.drew.grownBy w6 none) (hq : q.length ≤ 100000) :
    PBox w6 X kd sy n u ∧ ∃ w7, w6.alloc (.cells #[.int .i64 kd', .int .i64 sy', .int .i64 n', .slice a' len cap'] 25) = w7 ∧ PBox w7 X kd sy n u ∧
      ∃ v8 w8, (Builtin.append_ #[23, 23] 23 #[u, .slice (some ⟨w6.heap.size, 0, none⟩) 1 1]).run Tryd.prog w7 = .ok v8 w8 ∧ PBox w8 X kd sy n u ∧ w8.ownsRow (X + 1) 25 4 v8 (q.length + 1) (hdCells (q ++ [⟨kd', sy', n', a', len, cap'⟩])) ∧ w7.grownBy w8 u.ownBlock ∧ (∀ k, v8.ownBlock = some k → u.ownBlock = some k ∨ w7.heap.size ≤ k) := by
  obtain ⟨i0, hinf, hz0, hz1, hz2⟩ := info_ex_parts
  have hXl : X < wr.heap.size := hX.lt
  have hX6 : PBox w6 X kd sy n u := PBox.grown (w := wr.drew) ⟨hX.row⟩ hg6 (fun e => by cases e)
  have hs6 : wr.heap.size ≤ w6.heap.size := hg6.4
  have hownd : wr.drew.ownsRow (X + 1) 25 4 u q.length (hdCells q) := owns_below hown ((Below.refl wr.heap.size wr).drew)
  have hown6 : w6.ownsRow (X + 1) 25 4 u q.length (hdCells q) := owns_below hownd (below_none hg6)
  obtain ⟨w7, hw7⟩ : ∃ w7, w6.alloc (.cells #[.int .i64 kd', .int .i64 sy', .int .i64 n', .slice a' len cap'] 25) = w7 := ⟨_, rfl⟩
  have hb7 : Below w6.heap.size w6 w7 := by rw [← hw7]; exact xBelow_new _ _
  have hn7 : w7.heap[w6.heap.size]? = some (.cells #[.int .i64 kd', .int .i64 sy', .int .i64 n', .slice a' len cap'] 25 (0, 0)) := by rw [← hw7]; exact heap_alloc_new _ _
  have hown7 := owns_below hown6 hb7
  have hs7 := hb7.size
  obtain ⟨v8, w8, hrun, r1, r2, r3⟩ := append_where (P := Tryd.prog) w7 (X + 1) 23 23 25 i0 (.agg #[.int .i64 0, .int .i64 0, .int .i64 0, .slice none 0 0]) 4 48 Tryd.underlying23 hinf hz0 hz1 hz2 rfl (by decide) u q.length (hdCells q) hown7 ⟨w6.heap.size, 0, none⟩ 1 1 [.int .i64 kd', .int .i64 sy', .int .i64 n', .slice a' len cap'] rfl
    (by intro j x hj; rw [add_plain, cell_at hn7]; simpa using hj)
    (by intro x hx; simp at hx; rcases hx with rfl | rfl | rfl | rfl <;> rfl) (by unfold maxLen; omega) (by omega) (by omega)
  exact ⟨hX6, w7, hw7, hX6.below hb7, v8, w8, hrun, (hX6.below hb7).grown r2 (fun e => by have := (hown.lt _ e).1; omega), by rw [hdCells_snoc]; exact r1, r2, r3⟩
/-- Behind a kid: what lies where. -/
theorem kin_close0 {w wr w6 w7 w8 : World} {X Bq gv cv : Nat} {kd sy n kd' sy' n' : Int} {u : Value} {q : List Hd} {G F' : Fo} {S S' : List Nat} {a' : Option Addr} {cap' : Nat}
    (hwX : w.heap.size < X) (g05 : w.grownBy wr none) (hX5 : PBox wr X kd sy n u) (hBq : Bq < X) (hR5 : PBox wr Bq 0 0 0 (.slice none 0 0)) (hown : wr.ownsRow (X + 1) 25 4 u q.length (hdCells q))
    (hHd : HeadsS wr q G S) (hnd : S.Nodup) (hSS : ∀ x ∈ S, X + 1 ≤ x ∧ x < wr.heap.size ∧ some x ≠ u.ownBlock)
    (hg6 : wr.drew.grownBy w6 none) (hO6 : OwnAt w6 a' S' F') (hnd6 : S'.Nodup) (hS6 : ∀ x ∈ S', wr.drew.heap.size ≤ x ∧ x < w6.heap.size) (hF3 : F'.len ≤ 100000)
    (hw7 : w6.alloc (.cells #[.int .i64 kd', .int .i64 sy', .int .i64 n', .slice a' F'.len cap'] 25) = w7)
    (r0 : PBox w8 X kd sy n u) (r1 : w8.ownsRow (X + 1) 25 4 (.slice (some ⟨gv, 0, none⟩) (q.length + 1) cv) (q.length + 1) (hdCells (q ++ [⟨kd', sy', n', a', F'.len, cap'⟩]))) (r2 : w7.grownBy w8 u.ownBlock) (r3 : u.ownBlock = some gv ∨ w7.heap.size ≤ gv) {w9 : World}
    (hw9 : w8.setCell ⟨X, 3, none⟩ (.slice (some ⟨gv, 0, none⟩) (q.length + 1) cv) = w9) :
    PBox w9 X kd sy n (.slice (some ⟨gv, 0, none⟩) (q.length + 1) cv) ∧ PBox w9 Bq 0 0 0 (.slice none 0 0) ∧ w9.ownsRow (X + 1) 25 4 (.slice (some ⟨gv, 0, none⟩) (q.length + 1) cv) (q.length + 1) (hdCells (q ++ [⟨kd', sy', n', a', F'.len, cap'⟩])) ∧
    HeadsS w9 (q ++ [⟨kd', sy', n', a', F'.len, cap'⟩]) (G.app (.cons kd' sy' n' F' .nil)) (S ++ S') ∧ (S ++ S').Nodup ∧ (∀ x ∈ S ++ S', X + 1 ≤ x ∧ x < w9.heap.size ∧ some x ≠ (Value.slice (some ⟨gv, 0, none⟩) (q.length + 1) cv).ownBlock) ∧ w.grownBy w9 none := by
  have hXl := hX5.lt
  have hrs : wr.drew.heap.size = wr.heap.size := rfl
  have hs6 : wr.heap.size ≤ w6.heap.size := hg6.4
  have hb7 : Below w6.heap.size w6 w7 := by rw [← hw7]; exact xBelow_new _ _
  have hs7 := hb7.size
  have hs8 := r2.4
  have hus := fun k hk => hown.lt k hk
  have hgv : X + 1 ≤ gv := (r1.lt gv rfl).1
  have hsz9 : w9.heap.size = w8.heap.size := by rw [← hw9]; simp
  have h98 : ∀ x, x ≠ X → w9.heap[x]? = w8.heap[x]? := fun x hx => by rw [← hw9]; exact Below.heap_setCell _ _ _ _ hx
  have h86 : ∀ x, x < w6.heap.size → some x ≠ u.ownBlock → w8.heap[x]? = w6.heap[x]? := fun x hx hne => (r2.5 x (by omega) hne).trans (hb7.block x hx)
  have h6r : ∀ x, x < wr.heap.size → w6.heap[x]? = wr.heap[x]? := fun x hx => hg6.5 x hx (fun e => by cases e)
  have hlow : ∀ x, x ≤ X → some x ≠ u.ownBlock := fun x hx e => by have := (hus x e.symm).1; omega
  have hS9 : ∀ x ∈ S, w9.heap[x]? = wr.heap[x]? := fun x hx => by
    obtain ⟨k1, k2, k3⟩ := hSS x hx
    rw [h98 x (by omega), h86 x (by omega) k3, h6r x k2]
  have hS9' : ∀ x ∈ S', w9.heap[x]? = w6.heap[x]? := fun x hx => by
    obtain ⟨k1, k2⟩ := hS6 x hx
    rw [hrs] at k1
    rw [h98 x (by omega), h86 x k2 (fun e => by have := (hus x e.symm).2; omega)]
  have hg9 : w8.grownBy w9 (some X) := by rw [← hw9]; exact ⟨rfl, rfl, rfl, by simp, fun b _ hb => Below.heap_setCell _ _ _ _ (fun e => hb (by rw [e]))⟩
  refine ⟨?_, ?_, ?_, ?_, ?_, ?_, ?_⟩
  · rw [← hw9]; exact r0.put3 _
  · exact ⟨by rw [h98 _ (by omega), h86 _ (by omega) (hlow _ (by omega)), h6r _ (by omega)]; exact hR5.row⟩
  · exact r1.kept hg9 (.inr fun e => by have : gv = X := Option.some.inj e; omega)
  · exact HeadsS.snoc ⟨kd', sy', n', a', F'.len, cap'⟩ F' S' rfl (by unfold maxLen; omega) (hO6.of_blocks hS9') q G S (hHd.of_blocks q G S hS9)
  · refine List.nodup_append.2 ⟨hnd, hnd6, fun x hx y hy => ?_⟩
    have h1 := (hSS x hx).2.1
    have h2 := (hS6 y hy).1
    omega
  · intro x hx
    rcases List.mem_append.1 hx with hx | hx
    · obtain ⟨k1, k2, k3⟩ := hSS x hx
      refine ⟨k1, by omega, fun e => ?_⟩
      have e : x = gv := Option.some.inj e
      rcases r3 with h | h
      · exact k3 (by rw [h, e])
      · omega
    · obtain ⟨k1, k2⟩ := hS6 x hx
      rw [hrs] at k1
      refine ⟨by omega, by omega, fun e => ?_⟩
      have e : x = gv := Option.some.inj e
      rcases r3 with h | h
      · have := (hus _ h).2; omega
      · omega
  · exact xd_grown (xd_grown (grownBy_trans (grownBy_trans (xd_grown_drew g05) hg6) (xd_below_by hb7 _)) r2 (fun x hx => by have := (hus x hx).1; omega)) hg9 (fun x hx => by cases hx; omega)
def XCopy (w : World) (kd sy n : Int) (F : Fo) (e : Ending) (w' : World) : Prop :=
  ∃ (a : Option Addr) (cap : Nat) (S : List Nat), e = .returned (.agg #[.int .i64 kd, .int .i64 sy, .int .i64 n, .slice a F.len cap]) ∧ OwnAt w' a S F ∧ S.Nodup ∧ (∀ y ∈ S, w.heap.size ≤ y ∧ y < w'.heap.size) ∧ w.grownBy w' none
theorem Fo.len_size (F : Fo) : F.len ≤ F.size := by rw [Fo.size_eq]; omega
set_option maxHeartbeats 1000000 in
theorem l2Copy_any : ∀ (N : Nat) (F : Fo), F.size ≤ N → N ≤ 100000 → ∀ (kd sy n : Int) (a : Option Addr) (cap : Nat) (w : World), Slc w a F →
    Calls Tryd.prog 30 #[.agg #[.int .i64 kd, .int .i64 sy, .int .i64 n, .slice a F.len cap]] w (XCopy w kd sy n F) := by
  intro N
  induction N using Nat.strongRecOn with
  | _ N ih =>
  intro F hN hN1 kd sy n a cap w h
  have hFl := F.len_size
  go_enter Tryd.func30, Tryd.ntmps30
  go_wp2_with fail
  obtain ⟨w1, hw1⟩ : ∃ w1, w.alloc (.cells #[.int .i64 kd, .int .i64 sy, .int .i64 n, .slice a F.len cap] 25) = w1 := ⟨_, rfl⟩
  rw [hw1]
  have hb1 : Below w.heap.size w w1 := by rw [← hw1]; exact xBelow_new _ _
  have hA1 : PBox w1 w.heap.size kd sy n (.slice a F.len cap) := by rw [← hw1]; exact ⟨heap_alloc_new _ _⟩
  have hs1 : w1.heap.size = w.heap.size + 1 := by rw [← hw1]; exact World.size_alloc _ _
  obtain ⟨w2, hw2⟩ : ∃ w2, w1.alloc (.cells #[.int .i64 0, .int .i64 0, .int .i64 0, .slice none 0 0] 25) = w2 := ⟨_, rfl⟩
  rw [hw2]
  have hb2 : Below w1.heap.size w1 w2 := by rw [← hw2]; exact xBelow_new _ _
  have hB2 : PBox w2 (w.heap.size + 1) 0 0 0 (.slice none 0 0) := by rw [← hw2, ← hs1]; exact ⟨heap_alloc_new _ _⟩
  have hs2 : w2.heap.size = w.heap.size + 1 + 1 := by rw [← hw2, ← hs1]; exact World.size_alloc _ _
  obtain ⟨w3, hw3⟩ : ∃ w3, w2.alloc (.cells #[.int .i64 kd, .int .i64 sy, .int .i64 n, .slice none 0 0] 25) = w3 := ⟨_, rfl⟩
  rw [hw3]
  have hb3 : Below w2.heap.size w2 w3 := by rw [← hw3]; exact xBelow_new _ _
  have hX3 : PBox w3 (w.heap.size + 1 + 1) kd sy n (.slice none 0 0) := by rw [← hw3, ← hs2]; exact ⟨heap_alloc_new _ _⟩
  have hA3 := (hA1.below hb2).below hb3
  have hB3 := hB2.below hb3
  have hg3 : w.grownBy w3 none := grown_below' (grown_below' (grown_below' (grownBy_refl _ _) hb1) hb2) hb3
  clear hw1 hw2 hw3 hb1 hb2 hb3 hA1 hB2 hs1 hs2
  obtain ⟨B, hB⟩ : ∃ B, w.heap.size + 1 = B := ⟨_, rfl⟩
  have hwB : w.heap.size < B := by omega
  rw [hB] at hX3 hB3
  rw [hB]
  obtain ⟨X, hX⟩ : ∃ X, B + 1 = X := ⟨_, rfl⟩
  have hBX : B < X := by omega
  have hwX : w.heap.size < X := by omega
  rw [hX] at hX3
  rw [hX]
  clear hB hX
  go_loopw [4] (fun i wr => ∃ (q : List Hd) (G : Fo) (S : List Nat) (v : Value), i = .int .i64 q.length ∧ q.length ≤ F.len ∧ Hid (F = G.app (F.drop q.length)) ∧ PBox wr w.heap.size kd sy n (.slice a F.len cap) ∧ PBox wr B 0 0 0 (.slice none 0 0) ∧ PBox wr X kd sy n v ∧ wr.ownsRow (X + 1) 25 4 v q.length (hdCells q) ∧ Hid (HeadsS wr q G S) ∧ S.Nodup ∧ Hid (∀ y ∈ S, X + 1 ≤ y ∧ y < wr.heap.size ∧ some y ≠ v.ownBlock) ∧ w.grownBy wr none) (fun i _ => F.len - (intOf i).toNat)
  case atStart => exact ⟨[], .nil, [], .slice none 0 0, rfl, Nat.zero_le _, by show F = _; simp [Fo.app, Fo.drop_zero], hA3, hB3, hX3, World.ownsRow_nil _ _ _ _, rfl, List.nodup_nil, (fun y hy => absurd hy List.not_mem_nil : ∀ y ∈ ([] : List Nat), X + 1 ≤ y ∧ y < w3.heap.size ∧ some y ≠ (Value.slice none 0 0).ownBlock), hg3⟩
  case round =>
    clear hA3 hB3 hX3 hg3
    obtain ⟨q, G, S, v, rfl, hqF, hG, hA, h0, hX, hown, hHd, hnd, hS, hg⟩ := hrel
    have hXl := hX.lt
    by_cases hlt : q.length < F.len
    · obtain ⟨b, off, kd', sy', n', kids, a', cap', rfl, hbl, hd, hsz, c0, c1, c2, c3, hkids⟩ := (h.below (below_none hg)).at hlt
      have hkl := kids.len_size
      have hcS : Calls Tryd.prog 30 #[.agg #[.int .i64 kd', .int .i64 sy', .int .i64 n', .slice a' kids.len cap']] wr.drew (XCopy wr.drew kd' sy' n' kids) := ih kids.size (by omega) kids (Nat.le_refl _) (by omega) kd' sy' n' a' cap' wr.drew (hkids.below ((Below.refl _ _).drew))
      have Hd' : Hid (F.drop q.length = .cons kd' sy' n' kids (F.drop (q.length + 1))) := hd
      have hlt' : (q.length : Int) < (F.len : Int) := by omega
      clear ih hd
      obtain ⟨x0, x1, x2, x3⟩ := hX.cells
      obtain ⟨o0, o1, o2, o3⟩ := hA.cells
      go_wp2_with fail
      go_region_law (first
        | refine xd_step rfl (.tmp 20) (.tmp 27) 23 rfl _ _ rfl rfl hrun ?_
        | (go_simp; go_wp2_with (go_at_call 30; refine hcS.mono ?_; rintro e w6 ⟨a6, cap6, S', rfl, hO6, hnd6, hS6, hg6⟩; obtain ⟨hX6, w7, hw7, hX7, v8, w8, hrun, r0, r1, r2, r3⟩ := kin_run0 (kd' := kd') (sy' := sy') (n' := n') (a' := a6) (len := kids.len) (cap' := cap6) hX hown hg6 (by omega); obtain ⟨e0, e1, e2, e3⟩ := hX6.cells; obtain ⟨gv, cv, rfl⟩ := ownsRow_succ r1; obtain ⟨y0, y1, y2, y3⟩ := r0.cells; obtain ⟨t0, t1, t2, t3⟩ := hX7.cells; have hf3 := r0.free 3)))
      all_goals go_wp2
      all_goals
        obtain ⟨k2, k3, k4, k5, k6, k7, k8⟩ := kin_close0 hwX hg hX hBX h0 hown hHd.out hnd hS.out hg6 hO6 hnd6 hS6 (by omega) hw7 r0 r1 r2 (r3 gv rfl) rfl
        have K5 : Hid _ := k5
        have K7 : Hid _ := k7
        have hA9 : PBox _ w.heap.size kd sy n (.slice (some ⟨b, off, none⟩) F.len cap) := ((PBox.grown (w := wr.drew) ⟨hA.row⟩ hg6 (fun e => by cases e)).below (by rw [← hw7]; exact xBelow_new _ _)).grown r2 (fun e => by have := (hown.lt _ e).1; omega)
        exact ⟨⟨q ++ [⟨kd', sy', n', a6, kids.len, cap6⟩], G.app (.cons kd' sy' n' kids .nil), S ++ S', .slice (some ⟨gv, 0, none⟩) (q.length + 1) cv, by rw [List.length_append]; go_num, by simp; omega, by show F = _; rw [List.length_append, Fo.app_app]; simp only [Fo.app]; exact hG.out.trans (by rw [Hd'.out]; rfl), hA9.other X 3 (by omega) _, k3, k2, by rw [List.length_append]; exact k4, K5, k6, K7, k8⟩, by simp [intOf]; omega⟩
    · have hGF : F = G := by
        have := hG.out
        rw [Fo.drop_end _ _ (by omega), Fo.app_nil] at this
        exact this
      have hqe : Hid (q.length = F.len) := by show _ = _; omega
      have hlt' : ¬ (q.length : Int) < (F.len : Int) := by omega
      obtain ⟨va, vc, rfl⟩ := slice_own hown
      obtain ⟨x0, x1, x2, x3⟩ := hX.cells
      obtain ⟨o0, o1, o2, o3⟩ := hA.cells
      obtain ⟨z0, z1, z2, z3⟩ := h0.cells
      have f0 := h0.free 0
      have f1 := h0.free 1
      have f2 := h0.free 2
      have f3 := h0.free 3
      obtain ⟨T, hT, hTn, hTb⟩ := own_row hown hHd.out hnd hS.out
      have HGF : Hid (F = G) := hGF
      clear ih hGF
      go_wp2
      refine bodyPost_ret (results_ex rfl _ _ B kd sy n _ rfl (h0.store kd sy n (.slice va q.length vc))) rfl ⟨va, vc, T, by rw [← hqe.out], ?_, hTn, fun y hy => ⟨by have := (hTb y hy).1; omega, by have := (hTb y hy).2; simpa using this⟩, xd_store hg (by omega) _ _ _ _⟩
      rw [HGF.out]
      exact hT.of_blocks (fun y hy => store_low (lo := B + 1) (by omega) _ _ _ _ y (by have := (hTb y hy).1; omega))
end Go.Proofs.YtpokhhplgljmiaaDoor
