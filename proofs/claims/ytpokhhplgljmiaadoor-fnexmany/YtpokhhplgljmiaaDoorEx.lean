/- What is looked for, as plain data; where it lies in memory. -/
import Derived.Test.YtpokhhplgljmiaaDoorEvsOpen
import Derived.Test.YtpokhhplgljmiaaDoorEvsOwn
import Derived.Lib.SmallJoins
namespace Go.Proofs.YtpokhhplgljmiaaDoor
open Go.ChangeShapes Go.WideShapes Go.ChangeAt Go.RowKit Go.Deep
set_option linter.unusedVariables false
set_option maxRecDepth 4000

/-- A list of what is looked for: each with its kind, its Sym, its N and its parts; and those behind it. -/
inductive Fo where
  | nil : Fo
  | cons (kd sy n : Int) (kids rest : Fo) : Fo

def Fo.len : Fo → Nat
  | .nil => 0
  | .cons _ _ _ _ r => r.len + 1
/-- All of them, with all their parts. -/
def Fo.size : Fo → Nat
  | .nil => 0
  | .cons _ _ _ k r => k.size + r.size + 1
/-- The parts of all of them. -/
def Fo.inner : Fo → Nat
  | .nil => 0
  | .cons _ _ _ k r => k.size + r.inner
def Fo.drop : Nat → Fo → Fo
  | 0, F => F
  | _ + 1, .nil => .nil
  | k + 1, .cons _ _ _ _ r => r.drop k

theorem Fo.size_eq : ∀ F : Fo, F.size = F.len + F.inner
  | .nil => rfl
  | .cons _ _ _ k r => by have := Fo.size_eq r; simp only [Fo.size, Fo.len, Fo.inner]; omega
theorem Fo.drop_zero (F : Fo) : F.drop 0 = F := by cases F <;> rfl
theorem Fo.drop_end : ∀ (k : Nat) (F : Fo), F.len ≤ k → F.drop k = .nil
  | 0, .nil, _ => rfl
  | 0, .cons .., h => by simp [Fo.len] at h
  | _ + 1, .nil, _ => rfl
  | k + 1, .cons _ _ _ _ r, h => Fo.drop_end k r (by simpa [Fo.len] using h)
theorem Fo.drop_at : ∀ (k : Nat) (F : Fo), k < F.len → ∃ kd sy n kids, F.drop k = .cons kd sy n kids (F.drop (k + 1)) ∧ kids.size < F.size
  | _, .nil, h => by simp [Fo.len] at h
  | 0, .cons kd sy n k r, _ => ⟨kd, sy, n, k, by simp [Fo.drop], by simp [Fo.size]; omega⟩
  | j + 1, .cons _ _ _ _ r, h => by
    obtain ⟨kd, sy, n, kids, h1, h2⟩ := Fo.drop_at j r (by simpa [Fo.len] using h)
    exact ⟨kd, sy, n, kids, by simpa [Fo.drop] using h1, by simp [Fo.size]; omega⟩

/-- From cell off on block b holds the list F. -/
def Kids (w : World) : Nat → Nat → Fo → Prop
  | _, _, .nil => True
  | b, off, .cons kd sy n kids rest =>
    (w.cell? ⟨b, off, none⟩ = some (.int .i64 kd) ∧ w.cell? ⟨b, off + 1, none⟩ = some (.int .i64 sy) ∧ w.cell? ⟨b, off + 2, none⟩ = some (.int .i64 n)) ∧
    (∃ a cap, w.cell? ⟨b, off + 3, none⟩ = some (.slice a kids.len cap) ∧ kids.len ≤ maxLen ∧ (0 < kids.len → ∃ b' off', a = some ⟨b', off', none⟩ ∧ b' < w.heap.size ∧ Kids w b' off' kids)) ∧
    Kids w b (off + 4) rest

/-- The slice whose address is a holds the list F. -/
structure Slc (w : World) (a : Option Addr) (F : Fo) : Prop where
  len : F.len ≤ maxLen
  cells : 0 < F.len → ∃ b off, a = some ⟨b, off, none⟩ ∧ b < w.heap.size ∧ Kids w b off F

theorem Kids.below {w w' : World} (hb : Below w.heap.size w w') : ∀ (F : Fo) (b off : Nat), b < w.heap.size → Kids w b off F → Kids w' b off F
  | .nil, _, _, _, _ => trivial
  | .cons kd sy n kids rest, b, off, hlt, ⟨⟨h1, h2, h3⟩, ⟨a, cap, h4, h5, h6⟩, h7⟩ => by
    refine ⟨⟨by rw [hb.cell hlt]; exact h1, by rw [hb.cell hlt]; exact h2, by rw [hb.cell hlt]; exact h3⟩, ⟨a, cap, by rw [hb.cell hlt]; exact h4, h5, fun hk => ?_⟩, Kids.below hb rest b _ hlt h7⟩
    obtain ⟨b', off', ha, hlt', hk'⟩ := h6 hk
    exact ⟨b', off', ha, Nat.lt_of_lt_of_le hlt' hb.size, Kids.below hb kids b' off' hlt' hk'⟩

theorem Slc.below {w w' : World} {a : Option Addr} {F : Fo} (h : Slc w a F) (hb : Below w.heap.size w w') : Slc w' a F := by
  refine ⟨h.len, fun hl => ?_⟩
  obtain ⟨b, off, ha, hlt, hk⟩ := h.cells hl
  exact ⟨b, off, ha, Nat.lt_of_lt_of_le hlt hb.size, hk.below hb F b off hlt⟩

theorem Slc.nil (w : World) (a : Option Addr) : Slc w a .nil := ⟨by simp [Fo.len], fun h => by simp [Fo.len] at h⟩

theorem Kids.drop {w : World} : ∀ (k : Nat) (F : Fo) (b off : Nat), Kids w b off F → Kids w b (off + k * 4) (F.drop k)
  | 0, F, b, off, h => by simpa [Fo.drop_zero] using h
  | _ + 1, .nil, _, _, _ => trivial
  | k + 1, .cons _ _ _ _ r, b, off, h => by
    have := Kids.drop k r b (off + 4) h.2.2
    rwa [show off + (k + 1) * 4 = off + 4 + k * 4 by omega]

/-- One of the list: what a round of a loop wants of it. -/
theorem Slc.at {w : World} {a : Option Addr} {F : Fo} (h : Slc w a F) {k : Nat} (hk : k < F.len) :
    ∃ b off kd sy n kids a' cap', a = some ⟨b, off, none⟩ ∧ b < w.heap.size ∧ F.drop k = .cons kd sy n kids (F.drop (k + 1)) ∧ kids.size < F.size ∧
      w.cell? ⟨b, off + k * 4, none⟩ = some (.int .i64 kd) ∧ w.cell? ⟨b, off + k * 4 + 1, none⟩ = some (.int .i64 sy) ∧ w.cell? ⟨b, off + k * 4 + 2, none⟩ = some (.int .i64 n) ∧
      w.cell? ⟨b, off + k * 4 + 3, none⟩ = some (.slice a' kids.len cap') ∧ Slc w a' kids := by
  obtain ⟨b, off, ha, hlt, hc⟩ := h.cells (by omega)
  obtain ⟨kd, sy, n, kids, hd, hs⟩ := Fo.drop_at k F hk
  have hd' := hc.drop k
  rw [hd] at hd'
  obtain ⟨⟨h1, h2, h3⟩, ⟨a', cap', h4, h5, h6⟩, _⟩ := hd'
  exact ⟨b, off, kd, sy, n, kids, a', cap', ha, hlt, hd, hs, h1, h2, h3, h4, h5, h6⟩

section
variable {H : Type} {enc : TypeId × Value → H} {W : World}

/-- Lists out of what lies at each place. -/
theorem kids_of_places {b : Nat} : ∀ (m off : Nat), (∀ i, i < m → ∃ kd sy n kids a cap, W.cell? ⟨b, off + i * 4, none⟩ = some (.int .i64 kd) ∧ W.cell? ⟨b, off + i * 4 + 1, none⟩ = some (.int .i64 sy) ∧ W.cell? ⟨b, off + i * 4 + 2, none⟩ = some (.int .i64 n) ∧
      W.cell? ⟨b, off + i * 4 + 3, none⟩ = some (.slice a kids.len cap) ∧ Slc W a kids) → ∃ F : Fo, F.len = m ∧ Kids W b off F
  | 0, _, _ => ⟨.nil, rfl, trivial⟩
  | m + 1, off, h => by
    obtain ⟨kd, sy, n, kids, a, cap, h1, h2, h3, h4, h5⟩ := h 0 (by omega)
    obtain ⟨F, hF, hK⟩ := kids_of_places m (off + 4) (fun i hi => by
      have := h (i + 1) (by omega)
      rwa [show off + (i + 1) * 4 = off + 4 + i * 4 by omega] at this)
    simp only [Nat.zero_mul, Nat.add_zero] at h1 h2 h3 h4
    exact ⟨.cons kd sy n kids F, by simp [Fo.len, hF], ⟨h1, h2, h3⟩, ⟨a, cap, h4, h5.len, h5.cells⟩, hK⟩

end
end Go.Proofs.YtpokhhplgljmiaaDoor
