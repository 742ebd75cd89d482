/- Going through all parts: what (*exWalk).part does, whatever its yield does with each. -/
import Derived.Test.YtpokhhplgljmiaaDoorExK
import Derived.RangeFuncNested
import Derived.RangeFuncBound
import Derived.RangeFuncCalls
import Derived.RangeFuncLeaves
import Derived.Shelf.RegionOpen
import Derived.OwnWalkIn
import Derived.TacticsInMore
namespace Go.Proofs.YtpokhhplgljmiaaDoor
open Go.ChangeShapes Go.WideShapes Go.ChangeAt Go.RowKit
set_option linter.unusedVariables false

/-- One part, as it is handed on: its kind, Sym and N, and a slice. -/
structure Hd where
  kd : Int
  sy : Int
  n : Int
  a : Option Addr
  len : Nat
  cap : Nat
def Hd.val (x : Hd) : Value := .agg #[.int .i64 x.kd, .int .i64 x.sy, .int .i64 x.n, .slice x.a x.len x.cap]
def Hd.tri (x : Hd) : Int × Int × Int := (x.kd, x.sy, x.n)
/-- Kind, Sym and N of all, in the order of their words. -/
def preF : Fo → List (Int × Int × Int)
  | .nil => []
  | .cons kd sy n k r => (kd, sy, n) :: (preF k ++ preF r)
theorem preF_len : ∀ F : Fo, (preF F).length = F.size
  | .nil => rfl
  | .cons _ _ _ k r => by simp [preF, Fo.size, preF_len k, preF_len r]
theorem preF_step {F : Fo} {k : Nat} {kd sy n : Int} {kids : Fo} (h : F.drop k = .cons kd sy n kids (F.drop (k + 1))) : preF (F.drop k) = (kd, sy, n) :: preF kids ++ preF (F.drop (k + 1)) := by rw [h]; rfl
theorem size_step {F : Fo} {k : Nat} {kd sy n : Int} {kids : Fo} (h : F.drop k = .cons kd sy n kids (F.drop (k + 1))) : (F.drop k).size = 1 + kids.size + (F.drop (k + 1)).size := by rw [h]; simp [Fo.size]; omega

theorem headB_parts (kd sy n : Int) (len : Nat) : headB kd sy n len = true ↔ (1 ≤ kd ∧ kd ≤ 7) ∧ kidsOf kd = (len : Int) ∧ fitsB kd sy n = true := by
  by_cases hk : kidsOf kd = (len : Int)
  · have hr : 1 ≤ kd ∧ kd ≤ 7 := by
      unfold kidsOf at hk
      by_cases h1 : kd = 1
      · omega
      by_cases h7 : kd = 7
      · omega
      rw [if_neg h1, if_neg h7] at hk
      by_cases h2 : kd = 2 ∨ kd = 3 ∨ kd = 4
      · omega
      rw [if_neg h2] at hk
      by_cases h5 : kd = 5 ∨ kd = 6
      · omega
      rw [if_neg h5] at hk
      omega
    by_cases h1 : kd = 1
    · subst h1; simp [headB, fitsB, hk]; omega
    by_cases h7 : kd = 7
    · subst h7; simp [headB, fitsB, hk]; omega
    simp [headB, fitsB, hk, h1, h7, hr]; omega
  · simp [headB, hk]

/-- The block of what goes through parts: its yield, and how many there were. -/
def Walk (A : World) (Bw l : Nat) (m : Int) : Prop := A.heap[Bw]? = some (.cells #[.func (.yield l) #[] #[], .int .i64 m] 84 (0, 0))
theorem Walk.below {A A' : World} {Bw l : Nat} {m : Int} (h : Walk A Bw l m) (hb : Below A.heap.size A A') : Walk A' Bw l m :=
  (hb.block Bw (Array.getElem?_eq_some_iff.1 h).1).trans h
theorem Walk.cells {A : World} {Bw l : Nat} {m : Int} (h : Walk A Bw l m) : A.cell? ⟨Bw, 0, none⟩ = some (.func (.yield l) #[] #[]) ∧ A.cell? ⟨Bw, 1, none⟩ = some (.int .i64 m) ∧ A.frozen? ⟨Bw, 1, none⟩ = false ∧ Bw < A.heap.size := by
  have h' : A.heap[Bw]? = some (.cells #[.func (.yield l) #[] #[], .int .i64 m] 84 (0, 0)) := h
  refine ⟨cell_at h' 0, cell_at h' 1, ?_, (Array.getElem?_eq_some_iff.1 h').1⟩
  simp [World.frozen?, h']

/-- What the caller of all this keeps between two parts abides new memory, and the count. -/
structure Abides (Bw : Nat) (J : List Hd → World → Prop) : Prop where
  below : ∀ pre A A', J pre A → Below A.heap.size A A' → J pre A'
  set : ∀ pre A v, J pre A → J pre (A.setCell ⟨Bw, 1, none⟩ v)

/-- The world in which a part is looked at: counted, and in a box. -/
theorem part_start {w0 A : World} {Bw l : Nat} {m : Int} {t : TypeId} {v : Value} {J : List Hd → World → Prop} {pre : List Hd} (x0 x1 x2 x3 : Value) (tb : TypeId)
    (hE : ErrAt w0 t v) (hBw : w0.heap.size ≤ Bw) (hJ : Abides Bw J) (hj : J pre A) (hb : Below w0.heap.size w0 A) (hw : Walk A Bw l m) {W1 : World} (hW1 : (A.setCell ⟨Bw, 1, none⟩ (.int .i64 (m + 1))).alloc (.cells #[x0, x1, x2, x3] tb) = W1) :
    (J pre W1 ∧ Below w0.heap.size w0 W1 ∧ Walk W1 Bw l (m + 1) ∧ ErrAt W1 t v) ∧ (W1.cell? ⟨A.heap.size, 0, none⟩ = some x0 ∧ W1.cell? ⟨A.heap.size, 1, none⟩ = some x1 ∧ W1.cell? ⟨A.heap.size, 2, none⟩ = some x2 ∧ W1.cell? ⟨A.heap.size, 3, none⟩ = some x3) ∧ A.heap.size < W1.heap.size := by
  have hs : (A.setCell ⟨Bw, 1, none⟩ (.int .i64 (m + 1))).heap.size = A.heap.size := by simp
  have hB1 : Below (A.setCell ⟨Bw, 1, none⟩ (.int .i64 (m + 1))).heap.size (A.setCell ⟨Bw, 1, none⟩ (.int .i64 (m + 1))) W1 := by rw [← hW1]; exact (Below.refl _ _).alloc (Nat.le_refl _) _
  have hb1 : Below w0.heap.size w0 (A.setCell ⟨Bw, 1, none⟩ (.int .i64 (m + 1))) := hb.setCell hBw _
  have hw1 : Walk (A.setCell ⟨Bw, 1, none⟩ (.int .i64 (m + 1))) Bw l (m + 1) := by
    have h' : A.heap[Bw]? = some (.cells #[.func (.yield l) #[] #[], .int .i64 m] 84 (0, 0)) := hw
    exact heap_setCell_same _ _ _ _ _ _ h'
  have hx := box4 (A.setCell ⟨Bw, 1, none⟩ (.int .i64 (m + 1))) x0 x1 x2 x3 tb
  rw [hW1, hs] at hx
  have hbw : Below w0.heap.size w0 W1 := hb1.trans (hB1.mono hb1.size)
  refine ⟨⟨hJ.below _ _ _ (hJ.set _ _ _ hj) hB1, hbw, hw1.below hB1, hE.below hbw⟩, hx, ?_⟩
  rw [← hW1]; simp
end Go.Proofs.YtpokhhplgljmiaaDoor
