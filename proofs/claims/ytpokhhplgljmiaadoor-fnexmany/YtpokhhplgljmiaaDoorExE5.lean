/- How ExSame begins. -/
import Derived.Test.YtpokhhplgljmiaaDoorExE3
import Derived.Test.YtpokhhplgljmiaaDoorEx8
namespace Go.Proofs.YtpokhhplgljmiaaDoor
open Go.ChangeShapes Go.WideShapes Go.ChangeAt Go.RowKit
set_option linter.unusedVariables false
set_option maxRecDepth 4000

theorem same_start (kd sy n kd' sy' n' : Int) (p : Option Addr) (pc : Nat) (S : List Nat) (F : Fo) (a' : Option Addr) (cap' : Nat) (F' : Fo) (w Wb : World) (h : OwnAt w p S F) (hnd : S.Nodup) (hlen : F.len ≤ maxLen) (h' : Slc w a' F')
    (hWb : ((((w.alloc (.cells #[.int .i64 kd, .int .i64 sy, .int .i64 n, .slice p F.len pc] 25)).alloc (.cells #[.int .i64 kd', .int .i64 sy', .int .i64 n', .slice a' F'.len cap'] 25)).alloc
      (.cells #[.int .i64 kd, .int .i64 sy, .int .i64 n, .slice p F.len pc] 25)).alloc (.cells #[.int .i64 kd', .int .i64 sy', .int .i64 n', .slice a' F'.len cap'] 25)) = Wb) :
    ∃ L, SameInv Wb (w.heap.size + 1 + 1 + 1 + 1 + 1) (S.length + 10) (F.size + 2) (eqX kd sy n F kd' sy' n' F') (.slice (some ⟨w.heap.size + 1 + 1 + 1 + 1, 0, none⟩) 1 1)
      ((Wb.alloc (.cells #[.slice (some ⟨w.heap.size + 1 + 1, 0, none⟩) 1 1, .slice (some ⟨w.heap.size + 1 + 1 + 1, 0, none⟩) 1 1] 50)).alloc (.map #[] 0)) L := by
  have hszb : Wb.heap.size = w.heap.size + 1 + 1 + 1 + 1 := by rw [← hWb]; simp
  have hbb : Below w.heap.size w Wb := by rw [← hWb]; exact ((belE2 _ _ _).alloc (by simp; omega) _).alloc (by simp; omega) _
  obtain ⟨W2, hW2⟩ : ∃ W2, ((w.alloc (.cells #[.int .i64 kd, .int .i64 sy, .int .i64 n, .slice p F.len pc] 25)).alloc (.cells #[.int .i64 kd', .int .i64 sy', .int .i64 n', .slice a' F'.len cap'] 25)) = W2 := ⟨_, rfl⟩
  have hs2 : W2.heap.size = w.heap.size + 1 + 1 := by rw [← hW2]; simp
  rw [hW2] at hWb
  have hrA : Wb.heap[w.heap.size + 1 + 1]? = some (.cells #[.int .i64 kd, .int .i64 sy, .int .i64 n, .slice p F.len pc] 25 (0, 0)) := by
    have h1 := heap_alloc_new W2 (.cells #[.int .i64 kd, .int .i64 sy, .int .i64 n, .slice p F.len pc] 25)
    rw [hs2] at h1
    rw [← hWb, Below.heap_alloc _ _ _ (by simp; omega)]
    exact h1
  have hrB : Wb.heap[w.heap.size + 1 + 1 + 1]? = some (.cells #[.int .i64 kd', .int .i64 sy', .int .i64 n', .slice a' F'.len cap'] 25 (0, 0)) := by
    have h1 := heap_alloc_new (W2.alloc (.cells #[.int .i64 kd, .int .i64 sy, .int .i64 n, .slice p F.len pc] 25)) (.cells #[.int .i64 kd', .int .i64 sy', .int .i64 n', .slice a' F'.len cap'] 25)
    rw [World.size_alloc, hs2, hWb] at h1
    exact h1
  have hb := h.below hbb
  have hlt := h.blk
  have hc := h'.below hbb
  have hS0n : ((w.heap.size + 1 + 1) :: S).Nodup := List.nodup_cons.2 ⟨fun hx => by have := hlt _ hx; omega, hnd⟩
  refine ⟨[⟨some ⟨w.heap.size + 1 + 1, 0, none⟩, 1, .cons kd sy n F .nil, some ⟨w.heap.size + 1 + 1 + 1, 0, none⟩, 1, .cons kd' sy' n' F' .nil, (w.heap.size + 1 + 1) :: S⟩], ?_, ?_, ?_, ?_, ?_, ?_⟩
  · have hg : ((Wb.alloc (.cells #[.slice (some ⟨w.heap.size + 1 + 1, 0, none⟩) 1 1, .slice (some ⟨w.heap.size + 1 + 1 + 1, 0, none⟩) 1 1] 50)).alloc (.map #[] 0)).heap[w.heap.size + 1 + 1 + 1 + 1]? = some (.cells #[.slice (some ⟨w.heap.size + 1 + 1, 0, none⟩) 1 1, .slice (some ⟨w.heap.size + 1 + 1 + 1, 0, none⟩) 1 1] 50 (0, 0)) := by
      rw [Below.heap_alloc _ _ _ (by simp; omega)]
      have h1 := heap_alloc_new Wb (.cells #[.slice (some ⟨w.heap.size + 1 + 1, 0, none⟩) 1 1, .slice (some ⟨w.heap.size + 1 + 1 + 1, 0, none⟩) 1 1] 50)
      rw [hszb] at h1
      exact h1
    exact ⟨by simp [twCells, Tw.cells], .inr ⟨_, 1, _, rfl, by omega, hg, Nat.le_refl _, by simp [maxLen], by simp, by simp [twCells, Tw.cells, Fo.len]⟩⟩
  · exact belE2 _ _ _
  · have hH : ((Wb.alloc (.cells #[.slice (some ⟨w.heap.size + 1 + 1, 0, none⟩) 1 1, .slice (some ⟨w.heap.size + 1 + 1 + 1, 0, none⟩) 1 1] 50)).alloc (.map #[] 0)).heap[w.heap.size + 1 + 1 + 1 + 1 + 1]? = some (.map #[] 0) := by
      have h1 := World.alloc_heap_new (Wb.alloc (.cells #[.slice (some ⟨w.heap.size + 1 + 1, 0, none⟩) 1 1, .slice (some ⟨w.heap.size + 1 + 1 + 1, 0, none⟩) 1 1] 50)) (.map #[] 0)
      rw [World.size_alloc, hszb] at h1
      exact h1
    refine ⟨#[], 0, [], hH, fun e he => by simp at he, fun e he => by simp at he, fun x hx => by simp at hx, by simpa [blocks] using hS0n, by simp [blocks]⟩
  · intro t ht
    obtain rfl : t = _ := by simpa using ht
    refine ⟨by simp [Fo.len, maxLen], fun h0 => by simp [Fo.len] at h0, fun _ => ⟨_, _, rfl, rfl, ⟨_, _, hrA⟩, ?_⟩, ⟨by simp [Fo.len, maxLen], fun _ => ⟨_, 0, rfl, by omega, ?_⟩⟩⟩
    · refine ⟨S, [], by simp, ⟨cell_at hrA 0, cell_at hrA 1, cell_at hrA 2⟩, ⟨p, pc, cell_at hrA 3, hlen, hb.1, hb.2⟩, OwnKids.zero.2 rfl⟩
    · exact ⟨⟨cell_at hrB 0, cell_at hrB 1, cell_at hrB 2⟩, ⟨a', cap', cell_at hrB 3, hc.len, hc.cells⟩, trivial⟩
  · simp [eqX, eqF]
  · simp [sizes, Fo.size]
    omega
end Go.Proofs.YtpokhhplgljmiaaDoor
