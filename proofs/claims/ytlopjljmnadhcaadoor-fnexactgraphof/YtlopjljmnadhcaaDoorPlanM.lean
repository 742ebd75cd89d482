/- How many marks a plan of parts takes. -/
import Derived.Test.YtlopjljmnadhcaaDoorPlanL
namespace Go.Proofs.YtlopjljmnadhcaaDoor
open Go.ChangeShapes Go.WideShapes Go.ChangeAt Go.RowKit
set_option linter.unusedVariables false

def widP : Pl → Nat
  | [] => 0
  | x :: r => 4 + x.2.ks.length + widP r
theorem widP_append : ∀ (S T : Pl), widP (S ++ T) = widP S + widP T
  | [], T => by simp [widP]
  | x :: r, T => by simp [widP, widP_append r T]; omega
theorem widP_mem : ∀ (S : Pl) (x : List UInt8 × GN), x ∈ S → x.2.ks.length ≤ widP S
  | [], x, h => by simp at h
  | y :: r, x, h => by
    rcases List.mem_cons.1 h with rfl | h
    · simp [widP]; omega
    · have := widP_mem r x h; simp [widP]; omega
theorem planF_places (F : Fo) (S : Pl) : (planF F S).2.length = F.len := by
  have := planTo_places F.len F S
  rw [planTo_full F.len F S (Nat.le_refl _)] at this
  simpa using this
theorem widP_planF : ∀ (F : Fo) (S : Pl), widP (planF F S).1 + F.len ≤ widP S + 5 * F.size
  | .nil, S => by simp [planF, Fo.size, Fo.len]
  | .cons kd sy n k r, S => by
    rw [planF_cons]
    have h1 := widP_planF r (planX kd sy n k S).1
    have h2 := widP_planF k S
    have h3 := planF_places k S
    simp only [Fo.size, Fo.len]
    cases hi : idxT (textX kd sy n k) S with
    | some i => rw [planX_there hi] at h1 ⊢; simp only at h1 ⊢; omega
    | none => rw [planX_new hi] at h1 ⊢; simp only [widP_append, widP] at h1 ⊢; omega
theorem widP_planX (kd sy n : Int) (k : Fo) : widP (planX kd sy n k []).1 ≤ 4 + 5 * k.size := by
  have h2 := widP_planF k []
  have h3 := planF_places k []
  cases hi : idxT (textX kd sy n k) [] with
  | some i => simp [idxT] at hi
  | none => rw [planX_new hi]; simp only [widP_append, widP] at h2 ⊢; omega
theorem widP_gPl (kd sy n : Int) (F : Fo) (m : Int) : widP (gPl kd sy n F m) ≤ 4 + 5 * F.size := by
  unfold gPl
  split
  · exact widP_planX kd sy n F
  · simp [widP]
theorem widL_of : ∀ (L : List GC) (S : Pl), L.map (·.g) = S.map (·.2) → widL (L.map GC.e) = widP S
  | [], [], _ => rfl
  | [], _ :: _, h => by simp at h
  | _ :: _, [], h => by simp at h
  | x :: r, y :: s, h => by
    simp only [List.map_cons, List.cons.injEq] at h
    have := widL_of r s h.2
    simp only [List.map_cons, widL, widP, this, GE.w, GC.e, h.1]
theorem widL_mem : ∀ (L : List GE) (x : GE), x ∈ L → x.ks.length ≤ widL L
  | [], x, h => by simp at h
  | y :: r, x, h => by
    rcases List.mem_cons.1 h with rfl | h
    · simp [widL, GE.w]; omega
    · have := widL_mem r x h; simp [widL]; omega
theorem fo_len_size : ∀ (F : Fo), F.len ≤ F.size
  | .nil => by simp [Fo.len]
  | .cons kd sy n k r => by have := fo_len_size r; simp only [Fo.len, Fo.size]; omega
theorem planF_kids : ∀ (F : Fo) (S : Pl), ∀ x ∈ (planF F S).1, x ∈ S ∨ x.2.ks.length ≤ F.size
  | .nil, S => fun x hx => .inl hx
  | .cons kd sy n k r, S => fun x hx => by
    rw [planF_cons] at hx
    rcases planF_kids r _ x hx with h | h
    · cases hi : idxT (textX kd sy n k) S with
      | some i => rw [planX_there hi] at h; exact .inl h
      | none =>
        rw [planX_new hi] at h
        rcases List.mem_append.1 h with h | h
        · rcases planF_kids k S x h with h | h
          · exact .inl h
          · right; simp only [Fo.size]; omega
        · simp at h
          subst h
          right
          have := planF_places k S
          have := fo_len_size k
          simp only [Fo.size]; omega
    · right; simp only [Fo.size]; omega
theorem gPl_kids (kd sy n : Int) (F : Fo) (m : Int) : ∀ x ∈ gPl kd sy n F m, x.2.ks.length ≤ F.size := by
  intro x hx
  unfold gPl at hx
  split at hx
  · cases hi : idxT (textX kd sy n F) [] with
    | some i => simp [idxT] at hi
    | none =>
      rw [planX_new hi] at hx
      rcases List.mem_append.1 hx with h | h
      · rcases planF_kids F [] x h with h | h
        · simp at h
        · exact h
      · simp at h
        subst h
        have h1 := planF_places F []
        have h2 := fo_len_size F
        show (planF F []).2.length ≤ F.size
        omega
  · simp at hx
end Go.Proofs.YtlopjljmnadhcaaDoor
