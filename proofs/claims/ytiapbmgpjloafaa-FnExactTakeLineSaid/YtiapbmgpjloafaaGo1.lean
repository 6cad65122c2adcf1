/- Games of rungs, outlooks: how they are compared, the best of some, and a map that holds those which are known. -/
import Derived.Test.YtiapbmgpjloafaaMgA
import Derived.Maps.OwnSet
import Derived.Laws.EntriesVeiled
namespace Go.Proofs.Ytiapbmgpjloafaa
open Go Go.RowKit Go.Maps Go.MapKept
open Go.ChangeMaps (setBlock heap_setBlock_same heap_setBlock_other)

/-- an outlook: who wins, and how many moves -/
abbrev OutP := Bool × Nat
def betB (o p : OutP) : Bool := if o.1 = p.1 then (if o.1 = true then decide (o.2 < p.2) else decide (p.2 < o.2)) else o.1
def behP (p : OutP) : OutP := (!p.1, p.2 + 1)
def ovV (o : OutP) : Value := .agg #[.bool o.1, .int .i64 (o.2 : Int)]
/-- the best behind the first k choices -/
def bstK (f : Nat → OutP) (w0 : Bool) : Nat → OutP
  | 0 => (w0, 0)
  | k + 1 => if k = 0 ∨ betB (f k) (bstK f w0 k) = true then f k else bstK f w0 k
theorem bstK_one (f : Nat → OutP) (w0 : Bool) : bstK f w0 1 = f 0 := by simp [bstK]
theorem bstK_yes {f : Nat → OutP} {w0 : Bool} {k : Nat} (h : betB (f k) (bstK f w0 k) = true) : bstK f w0 (k + 1) = f k := by simp only [bstK]; rw [if_pos (.inr h)]
theorem bstK_no {f : Nat → OutP} {w0 : Bool} {k : Nat} (h0 : 0 < k) (h : betB (f k) (bstK f w0 k) = false) : bstK f w0 (k + 1) = bstK f w0 k := by simp only [bstK]; rw [if_neg (by rw [h]; simp; omega)]

/-- block b holds outlooks by numbers -/
def Memo (w : World) (b : Nat) (V : Nat → Option OutP) : Prop :=
  ∃ (es : Array MapEntry) (clock : Nat), w.heap[b]? = some (.map es clock) ∧ ∀ e ∈ es.toList, ∃ (p : Nat) (o : OutP), V p = some o ∧ e.key = .int .i64 (p : Int) ∧ e.val = ovV o

theorem Memo.lt {w : World} {b : Nat} {V : Nat → Option OutP} (h : Memo w b V) : b < w.heap.size := by
  obtain ⟨es, clock, hb, _⟩ := h
  exact (Array.getElem?_eq_some_iff.1 hb).1
theorem Memo.below {w w' : World} {b : Nat} {V : Nat → Option OutP} (h : Memo w b V) (hb : Below w.heap.size w w') : Memo w' b V := by
  have hl := h.lt
  obtain ⟨es, clock, hh, h2⟩ := h
  exact ⟨es, clock, (hb.block b hl).trans hh, h2⟩
theorem Memo.set {w : World} {b : Nat} {V : Nat → Option OutP} (h : Memo w b V) {p : Addr} (hp : b ≠ p.block) (u : Value) : Memo (w.setCell p u) b V := by
  obtain ⟨es, clock, hh, h2⟩ := h
  exact ⟨es, clock, by rw [Below.heap_setCell _ _ _ _ hp]; exact hh, h2⟩
theorem Memo.new (w : World) (V : Nat → Option OutP) : Memo (w.alloc (.map #[] 0)) w.heap.size V := ⟨#[], 0, heap_alloc_new w _, fun e he => by simp at he⟩

theorem findNow_memo (V : Nat → Option OutP) (p : Nat) : ∀ (es : List MapEntry) (i : Nat), (∀ e ∈ es, ∃ (p : Nat) (o : OutP), V p = some o ∧ e.key = .int .i64 (p : Int) ∧ e.val = ovV o) →
    (Instr.findNow (.int .i64) (.int .i64 (p : Int)) es i = some none) ∨ ∃ (j : Nat) (o : OutP) (e : MapEntry), Instr.findNow (.int .i64) (.int .i64 (p : Int)) es i = some (some (i + j, ovV o)) ∧ V p = some o ∧ es[j]? = some e ∧ e.key = .int .i64 (p : Int)
  | [], i, _ => .inl rfl
  | e :: es, i, h => by
    obtain ⟨q, o, h1, h2, h3⟩ := h e (by simp)
    unfold Instr.findNow
    rw [h2]
    by_cases hpq : p = q
    · subst hpq
      refine .inr ⟨0, o, e, ?_, h1, rfl, h2⟩
      simp [Instr.sameNow, h3]
    · have hne : ((p : Int) == (q : Int)) = false := by rw [beq_eq_false_iff_ne]; omega
      simp only [Instr.sameNow, if_pos, hne]
      rcases findNow_memo V p es (i + 1) (fun e he => h e (List.mem_cons_of_mem _ he)) with h4 | ⟨j, o', e', h4, h5, h6, h7⟩
      · exact .inl h4
      · exact .inr ⟨j + 1, o', e', by rw [h4]; congr 3; omega, h5, by simpa using h6, h7⟩

theorem zeroOut (w : World) : (zeroValue 75).run Try.prog w = .ok (.agg #[.bool false, .int .i64 0]) w := by kernel_rfl

theorem checkInt (e : Bool) (n : Nat) (p : Int) (w : World) : (Instr.checkKey e (n + 1) 3 (.int .i64 p)).run Try.prog w = .ok () w := by
  rw [Instr.checkKey]
  simp [run_underlying Try.underlying3, Result.andThen]
theorem sameInt (n : Nat) (p : Int) : Instr.sameBits n (.int .i64 p) (.int .i64 p) = true := by cases n <;> simp [Instr.sameBits]
theorem look_memo {w : World} {b : Nat} {V : Nat → Option OutP} (h : Memo w b V) (p : Nat) :
    ((Instr.lookup 55 (.map (some b)) (.int .i64 (p : Int)) true).run Try.prog w = .ok (.tuple #[.agg #[.bool false, .int .i64 0], .bool false]) w) ∨
    ∃ o, V p = some o ∧ (Instr.lookup 55 (.map (some b)) (.int .i64 (p : Int)) true).run Try.prog w = .ok (.tuple #[ovV o, .bool true]) w := by
  obtain ⟨es, clock, hb, hall⟩ := h
  have hc : ∀ e, (Instr.checkKey e 10000 3 (.int .i64 (p : Int))).run Try.prog w = .ok () w := fun e => checkInt e 9999 p w
  rcases findNow_memo V p es.toList 0 hall with h1 | ⟨j, o, e, h1, h2, _, _⟩
  · left
    simp [Instr.lookup, run_underlying Try.underlying55, MapKept.run_getObj_map hb, hc, Instr.findKey, run_underlying Try.underlying3, h1, zeroOut, Result.andThen]
  · right
    refine ⟨o, h2, ?_⟩
    simp [Instr.lookup, run_underlying Try.underlying55, MapKept.run_getObj_map hb, hc, Instr.findKey, run_underlying Try.underlying3, h1, Result.andThen]

theorem put_memo {w : World} {b : Nat} {V : Nat → Option OutP} (h : Memo w b V) (p : Nat) {o : OutP} (ho : V p = some o) :
    ∃ w', (Instr.mapUpdate 55 (.map (some b)) (.int .i64 (p : Int)) (ovV o)).run Try.prog w = .ok () w' ∧ Memo w' b V ∧ w.grownBy w' (some b) := by
  obtain ⟨es, clock, hb, hall⟩ := h
  have hc : (Instr.checkKey false 10000 3 (.int .i64 (p : Int))).run Try.prog w = .ok () w := checkInt false 9999 p w
  have hg : ∀ es' cl', w.grownBy (setBlock w b (.map es' cl')) (some b) := fun es' cl' =>
    ⟨rfl, rfl, rfl, by simp [setBlock], fun i _ hi => heap_setBlock_other hb _ (fun e => hi (by rw [e]))⟩
  rcases findNow_memo V p es.toList 0 hall with h1 | ⟨j, o', e0, h1, h2, h3, h4⟩
  · refine ⟨setBlock w b (.map (es.push ⟨.int .i64 (p : Int), ovV o, clock⟩) (clock + 1)), ?_, ?_, hg _ _⟩
    · simp [Instr.mapUpdate, run_underlying Try.underlying55, MapKept.run_getObj_map hb, hc, Instr.findKey, run_underlying Try.underlying3, h1, MapKept.run_setObj_map _ hb, Result.andThen, setBlock]
    · refine ⟨_, _, heap_setBlock_same hb _, fun e he => ?_⟩
      rw [Array.toList_push] at he
      rcases List.mem_append.1 he with he | he
      · exact hall e he
      · have : e = ⟨.int .i64 (p : Int), ovV o, clock⟩ := by simpa using he
        subst this
        exact ⟨p, o, ho, rfl, rfl⟩
  · have hj : es[j]? = some e0 := by simpa using h3
    refine ⟨setBlock w b (.map (es.modify j fun e => { e with key := .int .i64 (p : Int), val := ovV o }) clock), ?_, ?_, hg _ _⟩
    · have hs : Instr.sameBits 10000 (.int .i64 (p : Int)) (.int .i64 (p : Int)) = true := sameInt 10000 p
      simp [Instr.mapUpdate, run_underlying Try.underlying55, MapKept.run_getObj_map hb, hc, Instr.findKey, run_underlying Try.underlying3, h1, hj, h4, Instr.keyThatStays, hs, MapKept.run_setObj_map _ hb, Result.andThen, setBlock]
    · refine ⟨_, _, heap_setBlock_same hb _, fun e he => ?_⟩
      rw [Array.toList_modify] at he
      obtain ⟨k, hk, hek⟩ := List.mem_iff_getElem.1 he
      rw [List.getElem_modify] at hek
      split at hek
      · subst hek
        exact ⟨p, o, ho, rfl, rfl⟩
      · subst hek
        exact hall _ (List.getElem_mem _)
end Go.Proofs.Ytiapbmgpjloafaa
