/- What a law over structs and lists keeps from call to call: rows of its own in known stretches of blocks, and what a mark changes. -/
import Derived.Test.YtpkdeoehfnnchaaOf1
import Derived.Test.YtpkdeoehfnnchaaMgD
namespace Go.Proofs.Ytpkdeoehfnnchaa
open Go Go.RowKit

/-- the slice reads as zs, in a block of the call's own in lo..hi - 1 -/
structure OG (w : World) (lo hi : Nat) (A : Option Addr) (n : Nat) (zs : List Int) : Prop where
  of : OF w lo A n zs
  hi' : ∀ b, blk A = some b → b < hi
  le : lo ≤ hi
  top : hi ≤ w.heap.size
/-- no block outside lo..hi - 1 has turned -/
structure Chg (w w' : World) (lo hi : Nat) : Prop where
  os : w'.os = w.os
  tape : w'.tape = w.tape
  output : w'.output = w.output
  size : w.heap.size ≤ w'.heap.size
  same : ∀ i, i < w.heap.size → (i < lo ∨ hi ≤ i) → w'.heap[i]? = w.heap[i]?
section
variable {w wi wj wk : World} {K lo hi lo' hi' b : Nat} {A : Option Addr} {n c : Nat} {zs : List Int} {u v : Value}
theorem OG.ri (h : OG w lo hi A n zs) : RI w A n zs := h.of.ri
theorem OG.of_oi (h : OI w lo A n c zs) (hl : lo ≤ w.heap.size) : OG w lo w.heap.size A n zs := by
  refine ⟨⟨h.1, fun b hb => h.blk b hb, fun hn => ?_⟩, fun b hb => (h.blk b hb).2, hl, Nat.le_refl _⟩
  rcases h.form with ⟨_, _, h0⟩ | ⟨g, cur, rfl, h1, h2, h3⟩
  · omega
  · refine ⟨g, rfl, fun j hj => ⟨?_, h.2.frozenAt j⟩⟩
    obtain ⟨b', off', e, _, hc⟩ := h.ri.cell hj
    injection e with e; injection e with e1 e2 e3
    subst e1 e2
    have := hc j hj
    rwa [Nat.zero_add] at this
theorem OG.none_ (hl : lo ≤ hi) (ht : hi ≤ w.heap.size) : OG w lo hi none 0 [] := ⟨OF.none_ _ _, fun b hb => by simp [blk] at hb, hl, ht⟩
theorem OG.below (h : OG wi lo hi A n zs) (hb : Below wi.heap.size wi wj) : OG wj lo hi A n zs := ⟨h.of.below hb, h.hi', h.le, Nat.le_trans h.top hb.size⟩
theorem OG.chg (h : OG wi lo hi A n zs) (hc : Chg wi wj lo' hi') (hd : hi ≤ lo' ∨ hi' ≤ lo) : OG wj lo hi A n zs := by
  refine ⟨⟨h.of.len, fun b hb => ⟨(h.of.low b hb).1, Nat.lt_of_lt_of_le (h.of.low b hb).2 hc.size⟩, fun hn => ?_⟩, h.hi', h.le, Nat.le_trans h.top hc.size⟩
  obtain ⟨g, rfl, hr⟩ := h.of.row hn
  have h1 := h.of.low g rfl
  have h2 := h.hi' g rfl
  have e : wj.heap[g]? = wi.heap[g]? := hc.same g h1.2 (by omega)
  exact ⟨g, rfl, fun j hj => ⟨(World.cell?_of_block (w := wi) (a := ⟨g, j, none⟩) e).trans (hr j hj).1, (World.frozen?_of_block (w := wi) (a := ⟨g, j, none⟩) e).trans (hr j hj).2⟩⟩
theorem Chg.of_grown (h : wi.grownBy wj (blk A)) (hlo : ∀ b, blk A = some b → lo ≤ b ∧ b < hi) : Chg wi wj lo hi :=
  ⟨h.os, h.tape, h.output, h.size, fun i hi0 hd => h.block i hi0 (fun e => by have := hlo i e.symm; omega)⟩
theorem Chg.mono (h : Chg wi wj lo hi) (h1 : lo' ≤ lo) (h2 : hi ≤ hi') : Chg wi wj lo' hi' := ⟨h.os, h.tape, h.output, h.size, fun i h0 hd => h.same i h0 (by omega)⟩
theorem Chg.trans (h : Chg wi wj lo hi) (g : Chg wj wk lo hi) : Chg wi wk lo hi := ⟨g.os.trans h.os, g.tape.trans h.tape, g.output.trans h.output, Nat.le_trans h.size g.size, fun i h0 hd => (g.same i (Nat.lt_of_lt_of_le h0 h.size) hd).trans (h.same i h0 hd)⟩
theorem Chg.below (h : Chg wi wj lo hi) (hK : K ≤ lo) (hs : K ≤ wi.heap.size) : Below K wi wj := ⟨h.os, h.tape, h.output, h.size, fun i hi0 => h.same i (by omega) (by omega)⟩
theorem Cell2.chg (h : Cell2 wi b u v) (hc : Chg wi wj lo hi) (hd : b < lo ∨ hi ≤ b) : Cell2 wj b u v := by
  have e : wj.heap[b]? = wi.heap[b]? := hc.same b h.lt hd
  exact ⟨(World.cell?_of_block (w := wi) (a := ⟨b, 0, none⟩) e).trans h.c0, (World.cell?_of_block (w := wi) (a := ⟨b, 1, none⟩) e).trans h.c1, (World.frozen?_of_block (w := wi) (a := ⟨b, 0, none⟩) e).trans h.f0, (World.frozen?_of_block (w := wi) (a := ⟨b, 1, none⟩) e).trans h.f1, Nat.lt_of_lt_of_le h.lt hc.size⟩
theorem ogStep (h : Hid (OG wi lo hi A n zs)) (hb : Below wi.heap.size wi wj) : Hid (OG wj lo hi A n zs) := h.out.below hb
theorem ogChg (h : Hid (OG wi lo hi A n zs)) (hc : Chg wi wj lo' hi') (hd : hi ≤ lo' ∨ hi' ≤ lo) : Hid (OG wj lo hi A n zs) := h.out.chg hc hd
theorem c2Chg (h : Hid (Cell2 wi b u v)) (hc : Chg wi wj lo hi) (hd : b < lo ∨ hi ≤ b) : Hid (Cell2 wj b u v) := h.out.chg hc hd
theorem leChg {x : Nat} (h : Hid (x ≤ wi.heap.size)) (hc : Chg wi wj lo hi) : Hid (x ≤ wj.heap.size) := Nat.le_trans h.out hc.size
end
/-- the marks of a row, in its stretch -/
def MarkedG (w : World) (lo hi : Nat) (A : Option Addr) (n : Nat) (k : Int) (e : Ending) (w' : World) : Prop :=
  e = .returned (.int .i64 (k + n)) ∧ OG w' lo hi A n (marks k n) ∧ Chg w w' lo hi
theorem markG_any (lo hi : Nat) (A : Option Addr) (n c : Nat) (zs : List Int) (k : Int) (w : World) (h : OG w lo hi A n zs) (hn : n ≤ 1048576) (hk : 0 ≤ k) (hk2 : k ≤ 1000000000000) :
    Calls Try.prog 19 #[.slice A n c, .int .i64 k] w (MarkedG w lo hi A n k) := by
  refine (markOF_any lo A n c zs k w h.of hn hk hk2).mono ?_
  rintro e w' ⟨rfl, ho, hg⟩
  exact ⟨rfl, ⟨ho, h.hi', h.le, Nat.le_trans h.top hg.size⟩, Chg.of_grown hg (fun b hb => ⟨(h.of.low b hb).1, h.hi' b hb⟩)⟩
/-- two numbers and a bool -/
def RetIIB (r r2 : Int) (q : Bool) (w : World) (e : Ending) (w' : World) : Prop := e = .returned (.tuple #[.int .i64 r, .int .i64 r2, .bool q]) ∧ Below w.heap.size w w'
end Go.Proofs.Ytpkdeoehfnnchaa
