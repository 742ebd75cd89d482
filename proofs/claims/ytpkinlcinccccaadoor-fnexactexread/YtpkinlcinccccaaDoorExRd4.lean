/- Parts that are read one behind the other: where they lie, and what the plain reader says of them. -/
import Derived.Test.YtpkinlcinccccaaDoorExRd3
import Derived.Test.YtpkinlcinccccaaDoorExM1
namespace Go.Proofs.YtpkinlcinccccaaDoor
open Go.ChangeShapes Go.WideShapes Go.ChangeAt Go.RowKit
set_option linter.unusedVariables false
set_option maxRecDepth 4000
def Fo.app : Fo → Fo → Fo
  | .nil, G => G
  | .cons kd sy n k r, G => .cons kd sy n k (r.app G)
theorem Fo.app_nil : ∀ F : Fo, F.app .nil = F
  | .nil => rfl
  | .cons kd sy n k r => by show Fo.cons kd sy n k (r.app .nil) = _; rw [Fo.app_nil r]
theorem Fo.app_app : ∀ F G H : Fo, (F.app G).app H = F.app (G.app H)
  | .nil, _, _ => rfl
  | .cons kd sy n k r, G, H => by show Fo.cons kd sy n k ((r.app G).app H) = Fo.cons kd sy n k (r.app (G.app H)); rw [Fo.app_app r]
theorem Fo.app_len : ∀ F G : Fo, (F.app G).len = F.len + G.len
  | .nil, G => by show G.len = 0 + G.len; omega
  | .cons kd sy n k r, G => by show (r.app G).len + 1 = r.len + 1 + G.len; rw [Fo.app_len r G]; omega
theorem scan_bad {num : Wd → Option Int} {d : Nat} {ws : List Wd} (m : Nat) (h : scanK num d 1 ws = none) : scanK num d (m + 1) ws = none := by
  cases d with
  | zero => exact scanK_deep _ _ _
  | succ d =>
    cases hh : headR num ws with
    | none => exact scanK_none hh
    | some t =>
      obtain ⟨kd, sy, n, r⟩ := t
      rw [scanK_some hh] at h ⊢
      cases hk : scanK num d (kidsOf kd).toNat r with
      | none => rfl
      | some t => obtain ⟨k, r'⟩ := t; simp [hk, scanK_zero] at h
theorem scan_one {num : Wd → Option Int} {d : Nat} {ws r' : List Wd} {kd sy n : Int} {F : Fo} (m : Nat) (h : scanK num d 1 ws = some (.cons kd sy n F .nil, r')) :
    scanK num d (m + 1) ws = (scanK num d m r').map fun x => (Fo.cons kd sy n F x.1, x.2) := by
  cases d with
  | zero => rw [scanK_deep] at h; cases h
  | succ d =>
    cases hh : headR num ws with
    | none => rw [scanK_none hh] at h; cases h
    | some t =>
      obtain ⟨kd', sy', n', r⟩ := t
      rw [scanK_some hh] at h ⊢
      cases hk : scanK num d (kidsOf kd').toNat r with
      | none => simp [hk] at h
      | some t =>
        obtain ⟨k, r1⟩ := t
        simp [hk, scanK_zero] at h
        obtain ⟨⟨rfl, rfl, rfl, rfl⟩, rfl⟩ := h
        cases hm : scanK num (d + 1) m r1 with
        | none => simp [hm]
        | some t => simp [hm]
def Heads (P : Option Addr → Fo → Prop) : List Hd → Fo → Prop
  | [], .nil => True
  | x :: q, .cons kd sy n k r => (x.kd = kd ∧ x.sy = sy ∧ x.n = n ∧ x.len = k.len) ∧ P x.a k ∧ Heads P q r
  | [], .cons .. => False
  | _ :: _, .nil => False
theorem Heads.mono {P Q : Option Addr → Fo → Prop} (hPQ : ∀ a k, P a k → Q a k) : ∀ (q : List Hd) (F : Fo), Heads P q F → Heads Q q F
  | [], .nil, _ => trivial
  | x :: q, .cons kd sy n k r, ⟨h1, h2, h3⟩ => ⟨h1, hPQ _ _ h2, Heads.mono hPQ q r h3⟩
  | [], .cons .., h => h.elim
  | _ :: _, .nil, h => h.elim
theorem Heads.len {P : Option Addr → Fo → Prop} : ∀ (q : List Hd) (F : Fo), Heads P q F → q.length = F.len
  | [], .nil, _ => rfl
  | x :: q, .cons kd sy n k r, ⟨_, _, h3⟩ => by show q.length + 1 = r.len + 1; rw [Heads.len q r h3]
  | [], .cons .., h => h.elim
  | _ :: _, .nil, h => h.elim
theorem Heads.snoc {P : Option Addr → Fo → Prop} (x : Hd) (k : Fo) (hl : x.len = k.len) (hP : P x.a k) : ∀ (q : List Hd) (F : Fo), Heads P q F → Heads P (q ++ [x]) (F.app (.cons x.kd x.sy x.n k .nil))
  | [], .nil, _ => ⟨⟨rfl, rfl, rfl, hl⟩, hP, trivial⟩
  | y :: q, .cons kd sy n k' r, ⟨h1, h2, h3⟩ => ⟨h1, h2, Heads.snoc x k hl hP q r h3⟩
  | [], .cons .., h => h.elim
  | _ :: _, .nil, h => h.elim
theorem Heads.kids {w : World} : ∀ (q : List Hd) (F : Fo) (b off : Nat), Heads (Slc w) q F → (∀ j u, (hdCells q)[j]? = some u → w.cell? ⟨b, off + j, none⟩ = some u) → Kids w b off F
  | [], .nil, _, _, _, _ => trivial
  | x :: q, .cons kd sy n k r, b, off, ⟨⟨h1, h2, h3, hl⟩, hs, hr⟩, hc => by
    subst h1; subst h2; subst h3
    refine ⟨⟨hc 0 _ rfl, hc 1 _ rfl, hc 2 _ rfl⟩, ⟨x.a, x.cap, by rw [← hl]; exact hc 3 _ rfl, hs.len, fun h => hs.cells h⟩, Heads.kids q r b (off + 4) hr fun j u hj => ?_⟩
    have e : (hdCells (x :: q))[j + 4]? = (hdCells q)[j]? := by simp [hdCells]
    have := hc (j + 4) u (e.trans hj)
    rw [show off + 4 + j = off + (j + 4) by omega]; exact this
  | [], .cons .., _, _, h, _ => h.elim
  | _ :: _, .nil, _, _, h, _ => h.elim
/-- It can be read in every world that leaves the blocks from lo up to hi alone. -/
def SlcIn (w : World) (lo hi : Nat) (a : Option Addr) (F : Fo) : Prop := ∀ v : World, w.heap.size ≤ v.heap.size → (∀ b, lo ≤ b → b < hi → v.heap[b]? = w.heap[b]?) → Slc v a F
/-- It can be read in every world that leaves the blocks from lo on alone, but one. -/
def SlcBut (w : World) (lo : Nat) (g : Option Nat) (a : Option Addr) (F : Fo) : Prop := ∀ v : World, w.heap.size ≤ v.heap.size → (∀ b, lo ≤ b → b < w.heap.size → some b ≠ g → v.heap[b]? = w.heap[b]?) → Slc v a F
theorem SlcIn.slc {w : World} {lo hi : Nat} {a : Option Addr} {F : Fo} (h : SlcIn w lo hi a F) : Slc w a F := h w (Nat.le_refl _) (fun _ _ _ => rfl)
theorem SlcIn.nil (w : World) (lo hi : Nat) (a : Option Addr) : SlcIn w lo hi a .nil := fun v _ _ => Slc.nil v a
theorem SlcIn.but {w : World} {lo lo' : Nat} {g : Option Nat} {a : Option Addr} {F : Fo} (h : SlcIn w lo' w.heap.size a F) (hl : lo ≤ lo') (hg : ∀ k, g = some k → k < lo') : SlcBut w lo g a F :=
  fun v hs ha => h v hs fun b h1 h2 => ha b (Nat.le_trans hl h1) h2 fun e => Nat.lt_irrefl _ (Nat.lt_of_lt_of_le (hg b e.symm) h1)
theorem SlcBut.below {w w' : World} {lo : Nat} {g : Option Nat} {a : Option Addr} {F : Fo} (h : SlcBut w lo g a F) (hb : Below w.heap.size w w') : SlcBut w' lo g a F :=
  fun v hs ha => h v (Nat.le_trans hb.size hs) fun b h1 h2 h3 => (ha b h1 (Nat.lt_of_lt_of_le h2 hb.size) h3).trans (hb.block b h2)
theorem SlcBut.grown {w w' : World} {lo : Nat} {g g' : Option Nat} {a : Option Addr} {F : Fo} (h : SlcBut w lo g a F) (hg : w.grownBy w' g) (hn : ∀ k, g' = some k → g = some k ∨ w.heap.size ≤ k) : SlcBut w' lo g' a F :=
  fun v hs ha => h v (Nat.le_trans hg.4 hs) fun b h1 h2 h3 => (ha b h1 (Nat.lt_of_lt_of_le h2 hg.4) (fun e => by
    rcases hn b e.symm with e | e
    · exact h3 e.symm
    · omega)).trans (hg.5 b h2 h3)
theorem slc_row {w : World} {lo n cap : Nat} {a : Option Addr} {q : List Hd} {F : Fo} (h : w.ownsRow lo 29 4 (.slice a n cap) q.length (hdCells q)) (hh : Heads (SlcBut w lo (Value.slice a n cap).ownBlock) q F) (hq : q.length ≤ maxLen) : SlcIn w lo w.heap.size a F := by
  intro v hs ha
  have hS : Heads (Slc v) q F := hh.mono (fun a k h => h v hs (fun b h1 h2 _ => ha b h1 h2)) q F
  have hlen := hS.len
  rcases h.2 with ⟨_, hn⟩ | ⟨g, cap', cur, e, hb, hg, hn, hcm, hcs, htk⟩
  · refine ⟨by omega, fun hl => by omega⟩
  · simp only [Value.slice.injEq] at e
    obtain ⟨rfl, _, _⟩ := e
    have hlt : g < w.heap.size := (Array.getElem?_eq_some_iff.1 hg).1
    have hg' := (ha g hb hlt).trans hg
    refine ⟨by omega, fun hl => ⟨g, 0, rfl, Nat.lt_of_lt_of_le hlt hs, hS.kids q F g 0 fun j u hj => ?_⟩⟩
    have hjl : j < q.length * 4 := by rw [← h.1]; exact (List.getElem?_eq_some_iff.1 hj).1
    rw [← htk, List.getElem?_take, if_pos hjl] at hj
    rw [Nat.zero_add, cell_at hg']
    rwa [Array.getElem?_toList] at hj
end Go.Proofs.YtpkinlcinccccaaDoor
