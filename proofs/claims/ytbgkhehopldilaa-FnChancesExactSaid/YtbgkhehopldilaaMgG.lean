/- Orders: what the sorted seats say. Nothing of the program is said here. Two arrays of eight numbers, compared. The contract by which the program makes an array of an order. -/
import Derived.Test.YtbgkhehopldilaaMgA
import Derived.Laws.StructEq
import Derived.Test.YtbgkhehopldilaaMgC
import Derived.Test.YtbgkhehopldilaaMgB
import Derived.Laws.CopyOwn
import Derived.Laws.Rows
import Derived.Laws.Tables
namespace Go.Proofs.Ytbgkhehopldilaa
open Go

/-- an order's numbers, and behind them each place's own -/
def seats (zs : List Int) : List Int := (List.range 8).map fun (i : Nat) => if i < zs.length then gi zs i else (i : Int)
theorem seats_length (zs : List Int) : (seats zs).length = 8 := by simp [seats]
theorem gi_seats (zs : List Int) (j : Nat) (hj : j < 8) : gi (seats zs) j = if j < zs.length then gi zs j else (j : Int) := by
  rw [gi_lt (by rw [seats_length]; exact hj)]; simp [seats]

/-- the order of eight numbers that are all at home -/
def home8 : List Int := [0, 1, 2, 3, 4, 5, 6, 7]
theorem seats_nil : seats [] = home8 := by decide

/-- a list is an order -/
def ord (zs : List Int) : Bool := decide (1 ≤ zs.length ∧ zs.length ≤ 8 ∧ (∀ x ∈ zs, 0 ≤ x ∧ x < zs.length) ∧ zs.Nodup)
theorem ord_iff {zs : List Int} : ord zs = true ↔ 1 ≤ zs.length ∧ zs.length ≤ 8 ∧ (∀ x ∈ zs, 0 ≤ x ∧ x < zs.length) ∧ zs.Nodup := by unfold ord; exact decide_eq_true_iff

theorem mem_gi {zs : List Int} {x : Int} : x ∈ zs ↔ ∃ j, j < zs.length ∧ gi zs j = x := by
  constructor
  · intro h
    obtain ⟨j, hj, e⟩ := List.mem_iff_getElem.1 h
    exact ⟨j, hj, by rw [gi_lt hj]; exact e⟩
  · rintro ⟨j, hj, rfl⟩
    rw [gi_lt hj]; exact List.getElem_mem hj
theorem nodup_gi {zs : List Int} : zs.Nodup ↔ ∀ i j, i < j → j < zs.length → gi zs i ≠ gi zs j := by
  unfold List.Nodup
  rw [List.pairwise_iff_getElem]
  constructor
  · intro h i j hij hj
    rw [gi_lt (by omega), gi_lt hj]
    exact h i j (by omega) hj hij
  · intro h i j hi hj hij
    have := h i j hij hj
    rwa [gi_lt hi, gi_lt hj] at this

/-- eight numbers in 0 .. 7, each greater than the one before: these are all of them -/
theorem rising8 {s : List Int} (hl : s.length = 8) (hr : ∀ x ∈ s, 0 ≤ x ∧ x < 8) (h : ∀ i j, i < j → j < s.length → gi s i < gi s j) : s = home8 := by
  have hm : ∀ j, j < 8 → 0 ≤ gi s j ∧ gi s j < 8 := fun j hj => hr _ (mem_gi.2 ⟨j, by omega, rfl⟩)
  have h0 := hm 0 (by omega)
  have h7 := hm 7 (by omega)
  have a1 := h 0 1 (by omega) (by omega)
  have a2 := h 1 2 (by omega) (by omega)
  have a3 := h 2 3 (by omega) (by omega)
  have a4 := h 3 4 (by omega) (by omega)
  have a5 := h 4 5 (by omega) (by omega)
  have a6 := h 5 6 (by omega) (by omega)
  have a7 := h 6 7 (by omega) (by omega)
  refine gi_ext (by rw [hl]; rfl) (fun j hj => ?_)
  rw [hl] at hj
  match j, hj with
  | 0, _ => show gi s 0 = 0; omega
  | 1, _ => show gi s 1 = 1; omega
  | 2, _ => show gi s 2 = 2; omega
  | 3, _ => show gi s 3 = 3; omega
  | 4, _ => show gi s 4 = 4; omega
  | 5, _ => show gi s 5 = 5; omega
  | 6, _ => show gi s 6 = 6; omega
  | 7, _ => show gi s 7 = 7; omega

def srt (zs : List Int) : List Int := zs.mergeSort fun x y => decide (x ≤ y)
theorem srt_perm (zs : List Int) : List.Perm (srt zs) zs := List.mergeSort_perm _ _
theorem srt_length (zs : List Int) : (srt zs).length = zs.length := (srt_perm zs).length_eq
theorem srt_le (zs : List Int) : (srt zs).Pairwise (fun x y => decide (x ≤ y) = true) := List.pairwise_mergeSort (fun a b c h1 h2 => by simp at *; omega) (fun a b => by simp; omega) zs

theorem seats_ord {zs : List Int} (h1 : 1 ≤ zs.length) (h8 : zs.length ≤ 8) : srt (seats zs) = home8 ↔ ord zs = true := by
  rw [ord_iff]
  constructor
  · intro e
    have hp : List.Perm home8 (seats zs) := e ▸ srt_perm (seats zs)
    have hnd : (seats zs).Nodup := hp.nodup_iff.1 (by decide)
    have hr : ∀ x ∈ seats zs, 0 ≤ x ∧ x < 8 := fun x hx => by
      have : x ∈ home8 := hp.mem_iff.2 hx
      have hh : ∀ y ∈ home8, 0 ≤ y ∧ y < 8 := by decide
      exact hh x this
    rw [nodup_gi] at hnd
    rw [seats_length] at hnd
    have hz : ∀ j, j < zs.length → gi (seats zs) j = gi zs j := fun j hj => by rw [gi_seats _ _ (by omega), if_pos hj]
    refine ⟨h1, h8, fun x hx => ?_, nodup_gi.2 fun i j hij hj => ?_⟩
    · obtain ⟨j, hj, rfl⟩ := mem_gi.1 hx
      have hb := hr (gi zs j) (mem_gi.2 ⟨j, by rw [seats_length]; omega, hz j hj⟩)
      refine ⟨hb.1, ?_⟩
      rcases Int.lt_or_le (gi zs j) zs.length with h | h
      · exact h
      · exfalso
        have e2 : gi (seats zs) (gi zs j).toNat = gi zs j := by
          rw [gi_seats _ _ (by omega), if_neg (by omega)]; omega
        exact hnd j (gi zs j).toNat (by omega) (by omega) (by rw [hz j hj, e2])
    · rw [← hz i (by omega), ← hz j hj]
      exact hnd i j hij (by omega)
  · rintro ⟨_, _, hr, hnd⟩
    rw [nodup_gi] at hnd
    have hr' : ∀ j, j < zs.length → 0 ≤ gi zs j ∧ gi zs j < zs.length := fun j hj => hr _ (mem_gi.2 ⟨j, hj, rfl⟩)
    have hsn : (seats zs).Nodup := nodup_gi.2 fun i j hij hj => by
      rw [seats_length] at hj
      rw [gi_seats _ _ (by omega), gi_seats _ _ hj]
      by_cases hi : i < zs.length
      · rw [if_pos hi]
        by_cases hj' : j < zs.length
        · rw [if_pos hj']; exact hnd i j hij hj'
        · rw [if_neg hj']
          have := hr' i hi
          omega
      · rw [if_neg hi, if_neg (by omega)]; omega
    have hsr : ∀ x ∈ seats zs, 0 ≤ x ∧ x < 8 := fun x hx => by
      obtain ⟨j, hj, rfl⟩ := mem_gi.1 hx
      rw [seats_length] at hj
      rw [gi_seats _ _ hj]
      split
      · rename_i h; have := hr' j h; omega
      · omega
    have hn2 : (srt (seats zs)).Nodup := (srt_perm _).nodup_iff.2 hsn
    refine rising8 (by rw [srt_length, seats_length]) (fun x hx => hsr x ((srt_perm _).mem_iff.1 hx)) (fun i j hij hj => ?_)
    have hle := (List.pairwise_iff_getElem.1 (srt_le (seats zs))) i j (by omega) hj hij
    rw [← gi_lt (by omega), ← gi_lt hj] at hle
    have hle2 : gi (srt (seats zs)) i ≤ gi (srt (seats zs)) j := by simpa using hle
    have hne := nodup_gi.1 hn2 i j hij hj
    omega
end Go.Proofs.Ytbgkhehopldilaa
namespace Go.Proofs.Ytbgkhehopldilaa
open Go Go.RowKit

theorem part_int {P : Program} (w : World) (t : TypeId) (xs : Array Value) (j : Nat) (v : Value) (hu : P.underlying t = some (.int .i64)) (hv : xs[j]? = some v) : (part t xs j).run P w = .ok v w := by
  simp [part, isAgg, Sem.run_bind, run_underlying hu, hv]

theorem equal_ints {P : Program} (w : World) (d n : Nat) (t e : TypeId) (us vs : List Int) (ha : us.length = n) (hb : vs.length = n) (hu : P.underlying t = some (.array n e)) (he : P.underlying e = some (.int .i64)) (hs : (P.info? e).map (·.size) = some 1) :
    (Op.equalIn (d + 2) t (.agg (I us).toArray) (.agg (I vs).toArray)).run P w = .ok (decide (us = vs)) w := by
  have hsz : (sizeOf e).run P w = .ok 1 w := by
    cases hq : P.info? e with
    | none => simp [hq] at hs
    | some i => simp [hq] at hs; simp [sizeOf, typeInfo, hq, hs]
  have one : ∀ (j : Nat) (x y : Int), (Op.equalIn (d + 1) e (.int .i64 x) (.int .i64 y)).run P w = .ok (x == y) w := fun j x y => run_equalIn_int w d e .i64 .i64 x y he
  rw [Op.equalIn]
  simp only [Sem.run_bind, run_underlying hu, Result.andThen_ok, hsz]
  simp only [Std.Legacy.Range.forIn_eq_forIn_range', Std.Legacy.Range.size, Nat.sub_zero, Nat.add_one_sub_one, Nat.div_one, Nat.mul_one]
  have key : ∀ (m k : Nat), k + m = n → (∀ j, j < k → gi us j = gi vs j) →
      (forIn (m := Sem) (List.range' k m) ((none, ()) : Option Bool × Unit) (fun i _ => do
        let r ← Op.equalIn (d + 1) e (← part e (I us).toArray i) (← part e (I vs).toArray i)
        if (!r) = true then pure (ForInStep.done (some false, ())) else pure (ForInStep.yield (none, ())))).run P w
        = .ok (if us = vs then (none, ()) else (some false, ())) w := by
    intro m
    induction m with
    | zero =>
      intro k hk hall
      have : us = vs := gi_ext (by omega) (fun j hj => hall j (by omega))
      simp [this]
    | succ m ih =>
      intro k hk hall
      have e1 : (I us).toArray[k]? = some (.int .i64 (gi us k)) := by simpa using I_at (zs := us) (j := k) (by omega)
      have e2 : (I vs).toArray[k]? = some (.int .i64 (gi vs k)) := by simpa using I_at (zs := vs) (j := k) (by omega)
      rw [List.range'_succ, List.forIn_cons]
      simp only [Sem.run_bind, part_int w e _ k _ he e1, part_int w e _ k _ he e2, Result.andThen_ok, one k]
      by_cases hj : gi us k = gi vs k
      · simp only [hj, beq_self_eq_true, Bool.not_true, Bool.false_eq_true, if_false, Sem.run_pure, Result.andThen_ok]
        exact ih (k + 1) (by omega) (fun j h => by
          rcases Nat.lt_or_ge j k with h1 | h1
          · exact hall j h1
          · obtain rfl : j = k := by omega
            exact hj)
      · have hne : us ≠ vs := fun e => hj (by rw [e])
        simp [hj, hne]
  have k0 := key n 0 (by omega) (fun j hj => absurd hj (by omega))
  refine (congrArg (Result.andThen · _) k0).trans ?_
  by_cases h : us = vs <;> simp [h]

theorem arr8 {ys : List Int} (h : ys.length = 8) : (#[.int .i64 (gi ys 0), .int .i64 (gi ys 1), .int .i64 (gi ys 2), .int .i64 (gi ys 3), .int .i64 (gi ys 4), .int .i64 (gi ys 5), .int .i64 (gi ys 6), .int .i64 (gi ys 7)] : Array Value) = (I ys).toArray := by
  match ys, h with
  | [a, b, c, d, e, f, g, h], _ => rfl
theorem cells8 {w : World} {b : Nat} {ys : List Int} {t : TypeId} {fr : Nat × Nat} (hl : ys.length = 8) (h : w.heap[b]? = some (.cells (I ys).toArray t fr)) : w.cell? ⟨b, 0, none⟩ = some (.int .i64 (gi ys 0)) ∧ w.cell? ⟨b, 1, none⟩ = some (.int .i64 (gi ys 1)) ∧ w.cell? ⟨b, 2, none⟩ = some (.int .i64 (gi ys 2)) ∧ w.cell? ⟨b, 3, none⟩ = some (.int .i64 (gi ys 3)) ∧ w.cell? ⟨b, 4, none⟩ = some (.int .i64 (gi ys 4)) ∧ w.cell? ⟨b, 5, none⟩ = some (.int .i64 (gi ys 5)) ∧ w.cell? ⟨b, 6, none⟩ = some (.int .i64 (gi ys 6)) ∧ w.cell? ⟨b, 7, none⟩ = some (.int .i64 (gi ys 7)) := by
  have key : ∀ j, j < 8 → w.cell? ⟨b, j, none⟩ = some (.int .i64 (gi ys j)) := fun j hj => by
    simp only [World.cell?, h]
    simpa using I_at (zs := ys) (j := j) (by omega)
  exact ⟨key 0 (by omega), key 1 (by omega), key 2 (by omega), key 3 (by omega), key 4 (by omega), key 5 (by omega), key 6 (by omega), key 7 (by omega)⟩
theorem infoIntCell : (Try.prog.info? 3).map (·.size) = some 1 := by kernel_rfl
theorem sizeInt (w : World) : (sizeOf 3).run Try.prog w = .ok 1 w := by
  have hs := infoIntCell
  cases hq : Try.prog.info? 3 with
  | none => simp [hq] at hs
  | some i => simp [hq] at hs; simp [sizeOf, typeInfo, hq, hs]
end Go.Proofs.Ytbgkhehopldilaa
namespace Go.Proofs.Ytbgkhehopldilaa
open Go Go.RowKit

def SeatsPost (zs : List Int) (w : World) (e : Ending) (w' : World) : Prop := e = .returned (.agg (I (seats zs)).toArray) ∧ Below w.heap.size w w'
theorem row_eight (w : World) (t : TypeId) (x : Value) : (w.alloc (.cells #[x, x, x, x, x, x, x, x] t)).rowIs w.heap.size t 8 (fun _ => x) :=
  ⟨_, heap_alloc_new w _, rfl, fun i hi => by
    match i, hi with
    | 0, _ => rfl
    | 1, _ => rfl
    | 2, _ => rfl
    | 3, _ => rfl
    | 4, _ => rfl
    | 5, _ => rfl
    | 6, _ => rfl
    | 7, _ => rfl⟩
theorem rowAlloc {w : World} {b t n : Nat} {f : Nat → Value} (h : w.rowIs b t n f) (o : Obj) : (w.alloc o).rowIs b t n f := (rowStep (Lib.hid h) ((Below.refl _ _).alloc (Nat.le_refl _) o)).out

theorem infoIntSize : (Try.prog.info? 3).map (·.size) = some 1 := by kernel_rfl
theorem RI.src {w : World} {A : Option Addr} {n : Nat} {zs : List Int} (h : RI w A n zs) (hp : 0 < (I zs).length) : ∃ ad, A = some ad ∧ ∀ j v, (I zs)[j]? = some v → w.cell? (ad.add j) = some v := by
  rw [I_length, h.1] at hp
  obtain ⟨b, off, rfl, _, hc⟩ := h.2 hp
  refine ⟨_, rfl, fun j u hu => ?_⟩
  have hj : j < zs.length := by
    rcases Nat.lt_or_ge j zs.length with h | h
    · exact h
    · rw [List.getElem?_eq_none (by rw [I_length]; exact h)] at hu; cases hu
  rw [I_at hj] at hu
  injection hu with hu
  subst hu
  have := hc j (by have := h.1; omega)
  unfold Addr.add
  by_cases h0 : j = 0
  · subst h0; first | (simp; done) | simpa using this
  · simpa [h0] using this
theorem splice_seats {zs : List Int} {c3 : Array Value} (hs : c3.size = 8) (hc : ∀ i, i < 8 → c3[i]? = some (.int .i64 (i : Int))) (hn : zs.length ≤ 8) : splice c3.toList 0 (I zs) = I (seats zs) := by
  apply List.ext_getElem?
  intro j
  have hl : (I zs).length = zs.length := I_length zs
  simp only [splice, List.take_zero, List.nil_append, Nat.zero_add]
  by_cases h8 : j < 8
  · rw [I_at (by rw [seats_length]; exact h8)]
    have hg : gi (seats zs) j = if j < zs.length then gi zs j else (j : Int) := by
      rw [gi_lt (by rw [seats_length]; exact h8)]; simp [seats]
    rw [hg]
    by_cases hj : j < zs.length
    · rw [if_pos hj, List.getElem?_append_left (by omega), I_at hj]
    · rw [if_neg hj, List.getElem?_append_right (by omega), List.getElem?_drop, hl, show zs.length + (j - zs.length) = j by omega]
      have := hc j h8
      simpa using this
  · rw [List.getElem?_eq_none (by simp [hs, hl]; omega), List.getElem?_eq_none (by rw [I_length, seats_length]; omega)]

theorem copied {w4 : World} {b : Nat} {L L' : List Value} {arr : Array Value} {t : TypeId} (h : Hid (w4.heap[b]? = some (.cells L.toArray t (0, 0)))) (hs : Hid (L = L')) (ha : Hid (arr = L'.toArray)) : Hid (w4.heap[b]? = some (.cells arr t (0, 0))) := by
  have h1 := h.out
  rw [hs.out, ← ha.out] at h1
  exact h1
theorem below2 {wr w4 : World} {b : Nat} {x : Option Obj} (hb : Below (b + 1) wr w4) (h : Hid (wr.heap[b]? = x)) : Hid (w4.heap[b]? = x) := (hb.block b (Nat.lt_succ_self _)).trans h.out
theorem below4 {w wr w4 : World} {b : Nat} (h : Hid (Below b w wr)) (hb : Below (b + 1) wr w4) : Hid (Below b w w4) := h.out.trans (hb.mono (Nat.le_succ _))

end Go.Proofs.Ytbgkhehopldilaa
