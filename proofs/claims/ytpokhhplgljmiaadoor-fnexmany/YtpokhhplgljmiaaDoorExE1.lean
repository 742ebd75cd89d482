/- A map whose keys are two addresses and a number: what is looked up, and what is put in. -/
import Derived.Test.YtpokhhplgljmiaaDoorEx7
import Derived.LaidEql
import Derived.WideKeyRuns
import Derived.RangeFuncRecord
namespace Go.Proofs.YtpokhhplgljmiaaDoor
open Go.ChangeShapes Go.WideShapes Go.ChangeAt Go.RowKit
set_option linter.unusedVariables false
set_option maxRecDepth 8000

abbrev keyV (a b : Addr) (m : Int) : Value := .agg #[.pointer (some a), .pointer (some b), .int .i64 m]
/-- Block b is a row of cells. -/
def Blk (w : World) (b : Nat) : Prop := ∃ c t, w.heap[b]? = some (.cells c t (0, 0))
theorem Blk.lt {w : World} {b : Nat} (h : Blk w b) : b < w.heap.size := by obtain ⟨c, t, h⟩ := h; exact (Array.getElem?_eq_some_iff.1 h).1
theorem Blk.of {w w' : World} {b : Nat} (h : Blk w b) (e : w'.heap[b]? = w.heap[b]?) : Blk w' b := by obtain ⟨c, t, h⟩ := h; exact ⟨c, t, e.trans h⟩

theorem key_p0 (w : World) (x y z : Value) : (part 53 #[x, y, z] 0).run Tryd.prog w = .ok x w := by kernel_rfl
theorem key_p1 (w : World) (x y z : Value) : (part 53 #[x, y, z] 1).run Tryd.prog w = .ok y w := by kernel_rfl
theorem key_p2 (w : World) (x y z : Value) : (part 3 #[x, y, z] 2).run Tryd.prog w = .ok z w := by kernel_rfl
theorem key_check (em : Bool) (a b : Addr) (m : Int) (w : World) : (Instr.checkKey em 10000 55 (keyV a b m)).run Tryd.prog w = .ok () w := by kernel_rfl
theorem eq_ptr (d : Nat) (w : World) (a a' : Addr) (r : Bool) (h : (sameAddr a a').run Tryd.prog w = .ok r w) : (Op.equalIn (d + 1) 53 (.pointer (some a)) (.pointer (some a'))).run Tryd.prog w = .ok r w := by
  have hi : (Tryd.prog.info? 25).map (fun i => i.size) = some 4 := by kernel_rfl
  cases hx : Tryd.prog.info? 25 with
  | none => rw [hx] at hi; simp at hi
  | some i =>
    rw [hx] at hi
    simp at hi
    simp [Op.equalIn, run_underlying Tryd.underlying53, typeInfo, sizeOf, hx, hi, h]
theorem eq_int (d : Nat) (w : World) (m m' : Int) : (Op.equalIn (d + 1) 3 (.int .i64 m) (.int .i64 m')).run Tryd.prog w = .ok (m == m') w := by
  simp [Op.equalIn, run_underlying Tryd.underlying3]
theorem eq_no (w : World) (a b a' b' : Addr) (m m' : Int) (hne : a.block ≠ a'.block) (ha : Blk w a.block) (ha' : Blk w a'.block) : (Op.equal 55 (keyV a b m) (keyV a' b' m')).run Tryd.prog w = .ok false w := by
  obtain ⟨ca, ta, ha⟩ := ha
  obtain ⟨cb, tb, hb⟩ := ha'
  have h1 := eq_ptr 9998 w a a' false (run_sameAddr_other (P := Tryd.prog) w (fun e => hne (by rw [e])) ha hb)
  show (Op.equalIn (9998 + 2) _ _ _).run _ _ = _
  generalize 9998 = d at h1
  unfold Op.equalIn
  simp [run_underlying Tryd.underlying55, key_p0, h1]
theorem eq_same (w : World) (a b : Addr) (m : Int) : (Op.equal 55 (keyV a b m) (keyV a b m)).run Tryd.prog w = .ok true w := by
  have h1 := eq_ptr 9998 w a a true (run_sameAddr_same (P := Tryd.prog) w a)
  have h2 := eq_ptr 9998 w b b true (run_sameAddr_same (P := Tryd.prog) w b)
  have h3 := eq_int 9998 w m m
  show (Op.equalIn (9998 + 2) _ _ _).run _ _ = _
  generalize 9998 = d at h1 h2 h3
  unfold Op.equalIn
  simp [run_underlying Tryd.underlying55, key_p0, key_p1, key_p2, h1, h2, h3]

/-- Whose first address lies in a block of V. -/
def KeysIn (V : List Nat) (es : List MapEntry) : Prop := ∀ e ∈ es, ∃ a b m, e.key = keyV a b m ∧ a.block ∈ V

theorem asking_none (w : World) (a b : Addr) (m : Int) (V : List Nat) (ha : Blk w a.block) (hV : ∀ x ∈ V, Blk w x) (hn : a.block ∉ V) : ∀ (es : List MapEntry) (i : Nat), KeysIn V es → (Instr.findAsking 55 (keyV a b m) es i).run Tryd.prog w = .ok none w
  | [], _, _ => rfl
  | e :: es, i, h => by
    obtain ⟨a', b', m', he, hm⟩ := h e (by simp)
    have h1 := eq_no w a b a' b' m m' (fun e => hn (by rw [e]; exact hm)) ha (hV _ hm)
    have h2 := asking_none w a b m V ha hV hn es (i + 1) (fun x hx => h x (by simp [hx]))
    simp [Instr.findAsking, he, h1, h2]
theorem asking_last (w : World) (a b : Addr) (m : Int) (V : List Nat) (ha : Blk w a.block) (hV : ∀ x ∈ V, Blk w x) (hn : a.block ∉ V) (v : Value) (c : Nat) : ∀ (es : List MapEntry) (i : Nat), KeysIn V es → (Instr.findAsking 55 (keyV a b m) (es ++ [{ key := keyV a b m, val := v, born := c }]) i).run Tryd.prog w = .ok (some (i + es.length, v)) w
  | [], i, _ => by simp [Instr.findAsking, eq_same]
  | e :: es, i, h => by
    obtain ⟨a', b', m', he, hm⟩ := h e (by simp)
    have h1 := eq_no w a b a' b' m m' (fun e => hn (by rw [e]; exact hm)) ha (hV _ hm)
    have h2 := asking_last w a b m V ha hV hn v c es (i + 1) (fun x hx => h x (by simp [hx]))
    simp [Instr.findAsking, he, h1, h2]
    omega
theorem find_eq (w : World) (x : Value) (es : List MapEntry) : (Instr.findKey 55 x es).run Tryd.prog w = (Instr.findAsking 55 x es).run Tryd.prog w := run_findKey_eq w (by rw [Tryd.underlying55]) x es

theorem lookup_none (w : World) (H : Nat) (es : Array MapEntry) (c : Nat) (a b : Addr) (m : Int) (V : List Nat) (hH : w.heap[H]? = some (.map es c)) (ha : Blk w a.block) (hV : ∀ x ∈ V, Blk w x) (hn : a.block ∉ V) (hk : KeysIn V es.toList) :
    (Instr.lookup 52 (.map (some H)) (keyV a b m) false).run Tryd.prog w = .ok (.int .i64 0) w := by
  have h1 := (find_eq w (keyV a b m) es.toList).trans (asking_none w a b m V ha hV hn es.toList 0 hk)
  have hz : (zeroValue 3).run Tryd.prog w = .ok (.int .i64 0) w := by kernel_rfl
  simp [Instr.lookup, run_underlying Tryd.underlying52, getObj, Sem.run, hH, key_check, h1, hz]

theorem entry_new (w : World) (H : Nat) (es : Array MapEntry) (c : Nat) (a b : Addr) (m : Int) (V : List Nat) (hH : w.heap[H]? = some (.map es c)) (ha : Blk w a.block) (hV : ∀ x ∈ V, Blk w x) (hn : a.block ∉ V) (hk : KeysIn V es.toList) :
    (Instr.mapEntry 52 (.map (some H)) (keyV a b m)).run Tryd.prog w = .ok (.tuple #[.int .i64 0, .int .i64 c]) (w.putObj H (.map (es.push { key := keyV a b m, val := .int .i64 0, born := c }) (c + 1))) := by
  have h1 := (find_eq w (keyV a b m) es.toList).trans (asking_none w a b m V ha hV hn es.toList 0 hk)
  have hz : (zeroValue 3).run Tryd.prog w = .ok (.int .i64 0) w := by kernel_rfl
  simp [Instr.mapEntry, run_underlying Tryd.underlying52, getObj, setObj, Sem.run, hH, key_check, h1, hz, goInt, World.putObj]

theorem lookup_last (w : World) (H : Nat) (es : Array MapEntry) (c c' : Nat) (a b : Addr) (m : Int) (V : List Nat) (hH : w.heap[H]? = some (.map (es.push { key := keyV a b m, val := .int .i64 0, born := c }) c')) (ha : Blk w a.block) (hV : ∀ x ∈ V, Blk w x) (hn : a.block ∉ V) (hk : KeysIn V es.toList) :
    (Instr.lookup 52 (.map (some H)) (keyV a b m) false).run Tryd.prog w = .ok (.int .i64 0) w := by
  have h1 := (find_eq w (keyV a b m) (es.toList ++ [{ key := keyV a b m, val := .int .i64 0, born := c }])).trans (asking_last w a b m V ha hV hn (.int .i64 0) c es.toList 0 hk)
  simp [Instr.lookup, run_underlying Tryd.underlying52, getObj, Sem.run, hH, key_check, h1]

theorem entry_store (w : World) (H : Nat) (es : Array MapEntry) (c : Nat) (k v : Value) (hH : w.heap[H]? = some (.map (es.push { key := k, val := .int .i64 0, born := c }) (c + 1))) (hb : ∀ e ∈ es.toList, e.born < c) :
    (Instr.entryStore 52 (.map (some H)) (.int .i64 c) v).run Tryd.prog w = .ok () (w.putObj H (.map (es.push { key := k, val := v, born := c }) (c + 1))) := by
  have hf : (es.push { key := k, val := .int .i64 0, born := c }).findIdx? (fun e => ((e.born : Nat) : Int) == (c : Int)) = some es.size := by
    have hn : es.findIdx? (fun e => ((e.born : Nat) : Int) == (c : Int)) = none := by
      rw [Array.findIdx?_eq_none_iff]
      intro e he
      have := hb e (by simpa using he)
      simp
      omega
    rw [Array.findIdx?_push, hn]
    simp
  have hm : (es.push { key := k, val := .int .i64 0, born := c }).modify es.size (fun e => { key := e.key, val := v, born := e.born }) = es.push { key := k, val := v, born := c } := by
    apply Array.ext
    · simp
    · intro i h1 h2
      simp at h1
      rw [Array.getElem_modify]
      by_cases e : es.size = i
      · subst e; simp
      · rw [if_neg e]
        have hlt : i < es.size := by omega
        simp [Array.getElem_push, hlt]
  simp [Instr.entryStore, getObj, setObj, Sem.run, hH, asInt, asIntOf, hf, hm, World.putObj]
end Go.Proofs.YtpokhhplgljmiaaDoor
