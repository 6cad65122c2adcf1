/- Orders: what the sorted seats say. Nothing of the program is said here. Two arrays of eight numbers, compared. The contract by which the program makes an array of an order. The program's question whether a list is an order. The model's question whether a list is an order. -/
import Derived.Test.YtgeeifjbfceogaaGreatDoorMgA
import Derived.Laws.StructEq
import Derived.Test.YtgeeifjbfceogaaGreatDoorMgC
import Derived.Test.YtgeeifjbfceogaaGreatDoorMgB
import Derived.Laws.CopyOwn
import Derived.Laws.Rows
import Derived.Laws.Tables
import Derived.Test.YtgeeifjbfceogaaGreatDoorSrt
import Derived.Sort.OwnSortedInts
import Derived.Test.YtgeeifjbfceogaaGreatDoorMgD
namespace Go.Proofs.YtgeeifjbfceogaaGreatDoor
open Go

/-- an order's numbers, and behind them each place's own -/
def seats (zs : List Int) : List Int := (List.range 8).map fun (i : Nat) => if i < zs.length then gi zs i else (i : Int)
theorem seats_length (zs : List Int) : (seats zs).length = 8 := by simp [seats]
theorem gi_seats (zs : List Int) (j : Nat) (hj : j < 8) : gi (seats zs) j = if j < zs.length then gi zs j else (j : Int) := by
  rw [gi_lt (by rw [seats_length]; exact hj)]; simp [seats]

/-- the order of eight numbers that are all at home -/
def home8 : List Int := [0, 1, 2, 3, 4, 5, 6, 7]
theorem seats_nil : seats [] = home8 := by decide

/-- a list is an order -/
def ord (zs : List Int) : Bool := decide (1 ≤ zs.length ∧ zs.length ≤ 8 ∧ (∀ x ∈ zs, 0 ≤ x ∧ x < zs.length) ∧ zs.Nodup)
theorem ord_iff {zs : List Int} : ord zs = true ↔ 1 ≤ zs.length ∧ zs.length ≤ 8 ∧ (∀ x ∈ zs, 0 ≤ x ∧ x < zs.length) ∧ zs.Nodup := by unfold ord; exact decide_eq_true_iff

theorem mem_gi {zs : List Int} {x : Int} : x ∈ zs ↔ ∃ j, j < zs.length ∧ gi zs j = x := by
  constructor
  · intro h
    obtain ⟨j, hj, e⟩ := List.mem_iff_getElem.1 h
    exact ⟨j, hj, by rw [gi_lt hj]; exact e⟩
  · rintro ⟨j, hj, rfl⟩
    rw [gi_lt hj]; exact List.getElem_mem hj
theorem nodup_gi {zs : List Int} : zs.Nodup ↔ ∀ i j, i < j → j < zs.length → gi zs i ≠ gi zs j := by
  unfold List.Nodup
  rw [List.pairwise_iff_getElem]
  constructor
  · intro h i j hij hj
    rw [gi_lt (by omega), gi_lt hj]
    exact h i j (by omega) hj hij
  · intro h i j hi hj hij
    have := h i j hij hj
    rwa [gi_lt hi, gi_lt hj] at this

/-- eight numbers in 0 .. 7, each greater than the one before: these are all of them -/
theorem rising8 {s : List Int} (hl : s.length = 8) (hr : ∀ x ∈ s, 0 ≤ x ∧ x < 8) (h : ∀ i j, i < j → j < s.length → gi s i < gi s j) : s = home8 := by
  have hm : ∀ j, j < 8 → 0 ≤ gi s j ∧ gi s j < 8 := fun j hj => hr _ (mem_gi.2 ⟨j, by omega, rfl⟩)
  have h0 := hm 0 (by omega)
  have h7 := hm 7 (by omega)
  have a1 := h 0 1 (by omega) (by omega)
  have a2 := h 1 2 (by omega) (by omega)
  have a3 := h 2 3 (by omega) (by omega)
  have a4 := h 3 4 (by omega) (by omega)
  have a5 := h 4 5 (by omega) (by omega)
  have a6 := h 5 6 (by omega) (by omega)
  have a7 := h 6 7 (by omega) (by omega)
  refine gi_ext (by rw [hl]; rfl) (fun j hj => ?_)
  rw [hl] at hj
  match j, hj with
  | 0, _ => show gi s 0 = 0; omega
  | 1, _ => show gi s 1 = 1; omega
  | 2, _ => show gi s 2 = 2; omega
  | 3, _ => show gi s 3 = 3; omega
  | 4, _ => show gi s 4 = 4; omega
  | 5, _ => show gi s 5 = 5; omega
  | 6, _ => show gi s 6 = 6; omega
  | 7, _ => show gi s 7 = 7; omega

def srt (zs : List Int) : List Int := zs.mergeSort fun x y => decide (x ≤ y)
theorem srt_perm (zs : List Int) : List.Perm (srt zs) zs := List.mergeSort_perm _ _
theorem srt_length (zs : List Int) : (srt zs).length = zs.length := (srt_perm zs).length_eq
theorem srt_le (zs : List Int) : (srt zs).Pairwise (fun x y => decide (x ≤ y) = true) := List.pairwise_mergeSort (fun a b c h1 h2 => by simp at *; omega) (fun a b => by simp; omega) zs

theorem seats_ord {zs : List Int} (h1 : 1 ≤ zs.length) (h8 : zs.length ≤ 8) : srt (seats zs) = home8 ↔ ord zs = true := by
  rw [ord_iff]
  constructor
  · intro e
    have hp : List.Perm home8 (seats zs) := e ▸ srt_perm (seats zs)
    have hnd : (seats zs).Nodup := hp.nodup_iff.1 (by decide)
    have hr : ∀ x ∈ seats zs, 0 ≤ x ∧ x < 8 := fun x hx => by
      have : x ∈ home8 := hp.mem_iff.2 hx
      have hh : ∀ y ∈ home8, 0 ≤ y ∧ y < 8 := by decide
      exact hh x this
    rw [nodup_gi] at hnd
    rw [seats_length] at hnd
    have hz : ∀ j, j < zs.length → gi (seats zs) j = gi zs j := fun j hj => by rw [gi_seats _ _ (by omega), if_pos hj]
    refine ⟨h1, h8, fun x hx => ?_, nodup_gi.2 fun i j hij hj => ?_⟩
    · obtain ⟨j, hj, rfl⟩ := mem_gi.1 hx
      have hb := hr (gi zs j) (mem_gi.2 ⟨j, by rw [seats_length]; omega, hz j hj⟩)
      refine ⟨hb.1, ?_⟩
      rcases Int.lt_or_le (gi zs j) zs.length with h | h
      · exact h
      · exfalso
        have e2 : gi (seats zs) (gi zs j).toNat = gi zs j := by
          rw [gi_seats _ _ (by omega), if_neg (by omega)]; omega
        exact hnd j (gi zs j).toNat (by omega) (by omega) (by rw [hz j hj, e2])
    · rw [← hz i (by omega), ← hz j hj]
      exact hnd i j hij (by omega)
  · rintro ⟨_, _, hr, hnd⟩
    rw [nodup_gi] at hnd
    have hr' : ∀ j, j < zs.length → 0 ≤ gi zs j ∧ gi zs j < zs.length := fun j hj => hr _ (mem_gi.2 ⟨j, hj, rfl⟩)
    have hsn : (seats zs).Nodup := nodup_gi.2 fun i j hij hj => by
      rw [seats_length] at hj
      rw [gi_seats _ _ (by omega), gi_seats _ _ hj]
      by_cases hi : i < zs.length
      · rw [if_pos hi]
        by_cases hj' : j < zs.length
        · rw [if_pos hj']; exact hnd i j hij hj'
        · rw [if_neg hj']
          have := hr' i hi
          omega
      · rw [if_neg hi, if_neg (by omega)]; omega
    have hsr : ∀ x ∈ seats zs, 0 ≤ x ∧ x < 8 := fun x hx => by
      obtain ⟨j, hj, rfl⟩ := mem_gi.1 hx
      rw [seats_length] at hj
      rw [gi_seats _ _ hj]
      split
      · rename_i h; have := hr' j h; omega
      · omega
    have hn2 : (srt (seats zs)).Nodup := (srt_perm _).nodup_iff.2 hsn
    refine rising8 (by rw [srt_length, seats_length]) (fun x hx => hsr x ((srt_perm _).mem_iff.1 hx)) (fun i j hij hj => ?_)
    have hle := (List.pairwise_iff_getElem.1 (srt_le (seats zs))) i j (by omega) hj hij
    rw [← gi_lt (by omega), ← gi_lt hj] at hle
    have hle2 : gi (srt (seats zs)) i ≤ gi (srt (seats zs)) j := by simpa using hle
    have hne := nodup_gi.1 hn2 i j hij hj
    omega
end Go.Proofs.YtgeeifjbfceogaaGreatDoor
namespace Go.Proofs.YtgeeifjbfceogaaGreatDoor
open Go Go.RowKit

theorem part_int {P : Program} (w : World) (t : TypeId) (xs : Array Value) (j : Nat) (v : Value) (hu : P.underlying t = some (.int .i64)) (hv : xs[j]? = some v) : (part t xs j).run P w = .ok v w := by
  simp [part, isAgg, Sem.run_bind, run_underlying hu, hv]

theorem equal_ints {P : Program} (w : World) (d n : Nat) (t e : TypeId) (us vs : List Int) (ha : us.length = n) (hb : vs.length = n) (hu : P.underlying t = some (.array n e)) (he : P.underlying e = some (.int .i64)) (hs : (P.info? e).map (·.size) = some 1) :
    (Op.equalIn (d + 2) t (.agg (I us).toArray) (.agg (I vs).toArray)).run P w = .ok (decide (us = vs)) w := by
  have hsz : (sizeOf e).run P w = .ok 1 w := by
    cases hq : P.info? e with
    | none => simp [hq] at hs
    | some i => simp [hq] at hs; simp [sizeOf, typeInfo, hq, hs]
  have one : ∀ (j : Nat) (x y : Int), (Op.equalIn (d + 1) e (.int .i64 x) (.int .i64 y)).run P w = .ok (x == y) w := fun j x y => run_equalIn_int w d e .i64 .i64 x y he
  rw [Op.equalIn]
  simp only [Sem.run_bind, run_underlying hu, Result.andThen_ok, hsz]
  simp only [Std.Legacy.Range.forIn_eq_forIn_range', Std.Legacy.Range.size, Nat.sub_zero, Nat.add_one_sub_one, Nat.div_one, Nat.mul_one]
  have key : ∀ (m k : Nat), k + m = n → (∀ j, j < k → gi us j = gi vs j) →
      (forIn (m := Sem) (List.range' k m) ((none, ()) : Option Bool × Unit) (fun i _ => do
        let r ← Op.equalIn (d + 1) e (← part e (I us).toArray i) (← part e (I vs).toArray i)
        if (!r) = true then pure (ForInStep.done (some false, ())) else pure (ForInStep.yield (none, ())))).run P w
        = .ok (if us = vs then (none, ()) else (some false, ())) w := by
    intro m
    induction m with
    | zero =>
      intro k hk hall
      have : us = vs := gi_ext (by omega) (fun j hj => hall j (by omega))
      simp [this]
    | succ m ih =>
      intro k hk hall
      have e1 : (I us).toArray[k]? = some (.int .i64 (gi us k)) := by simpa using I_at (zs := us) (j := k) (by omega)
      have e2 : (I vs).toArray[k]? = some (.int .i64 (gi vs k)) := by simpa using I_at (zs := vs) (j := k) (by omega)
      rw [List.range'_succ, List.forIn_cons]
      simp only [Sem.run_bind, part_int w e _ k _ he e1, part_int w e _ k _ he e2, Result.andThen_ok, one k]
      by_cases hj : gi us k = gi vs k
      · simp only [hj, beq_self_eq_true, Bool.not_true, Bool.false_eq_true, if_false, Sem.run_pure, Result.andThen_ok]
        exact ih (k + 1) (by omega) (fun j h => by
          rcases Nat.lt_or_ge j k with h1 | h1
          · exact hall j h1
          · obtain rfl : j = k := by omega
            exact hj)
      · have hne : us ≠ vs := fun e => hj (by rw [e])
        simp [hj, hne]
  have k0 := key n 0 (by omega) (fun j hj => absurd hj (by omega))
  refine (congrArg (Result.andThen · _) k0).trans ?_
  by_cases h : us = vs <;> simp [h]

theorem arr8 {ys : List Int} (h : ys.length = 8) : (#[.int .i64 (gi ys 0), .int .i64 (gi ys 1), .int .i64 (gi ys 2), .int .i64 (gi ys 3), .int .i64 (gi ys 4), .int .i64 (gi ys 5), .int .i64 (gi ys 6), .int .i64 (gi ys 7)] : Array Value) = (I ys).toArray := by
  match ys, h with
  | [a, b, c, d, e, f, g, h], _ => rfl
theorem cells8 {w : World} {b : Nat} {ys : List Int} {t : TypeId} {fr : Nat × Nat} (hl : ys.length = 8) (h : w.heap[b]? = some (.cells (I ys).toArray t fr)) : w.cell? ⟨b, 0, none⟩ = some (.int .i64 (gi ys 0)) ∧ w.cell? ⟨b, 1, none⟩ = some (.int .i64 (gi ys 1)) ∧ w.cell? ⟨b, 2, none⟩ = some (.int .i64 (gi ys 2)) ∧ w.cell? ⟨b, 3, none⟩ = some (.int .i64 (gi ys 3)) ∧ w.cell? ⟨b, 4, none⟩ = some (.int .i64 (gi ys 4)) ∧ w.cell? ⟨b, 5, none⟩ = some (.int .i64 (gi ys 5)) ∧ w.cell? ⟨b, 6, none⟩ = some (.int .i64 (gi ys 6)) ∧ w.cell? ⟨b, 7, none⟩ = some (.int .i64 (gi ys 7)) := by
  have key : ∀ j, j < 8 → w.cell? ⟨b, j, none⟩ = some (.int .i64 (gi ys j)) := fun j hj => by
    simp only [World.cell?, h]
    simpa using I_at (zs := ys) (j := j) (by omega)
  exact ⟨key 0 (by omega), key 1 (by omega), key 2 (by omega), key 3 (by omega), key 4 (by omega), key 5 (by omega), key 6 (by omega), key 7 (by omega)⟩
theorem infoIntCell : (Tryz.prog.info? 3).map (·.size) = some 1 := by kernel_rfl
theorem sizeInt (w : World) : (sizeOf 3).run Tryz.prog w = .ok 1 w := by
  have hs := infoIntCell
  cases hq : Tryz.prog.info? 3 with
  | none => simp [hq] at hs
  | some i => simp [hq] at hs; simp [sizeOf, typeInfo, hq, hs]
/-- element k of an array of eight numbers -/
theorem indexSeats (w : World) (us : List Int) (k : Nat) (hl : us.length = 8) (hk : k < 8) :
    (Instr.index 94 (.agg (I us).toArray) (.int .i64 (k : Int))).run Tryz.prog w = .ok (.int .i64 (gi us k)) w := by
  have e : (I us).toArray[k]? = some (.int .i64 (gi us k)) := by simpa using I_at (zs := us) (j := k) (by omega)
  have h1 : (0 : Int) ≤ (k : Int) ∧ (k : Int) < ((8 : Nat) : Int) := by omega
  simp only [Instr.index, asIntOf, Sem.run_bind, Sem.run_pure, Result.andThen_ok, run_underlying Tryz.underlying94, sizeInt, if_pos h1, Int.toNat_natCast, Nat.mul_one, part_int w _ _ k _ Tryz.underlying3 e]
theorem guardSeats : Tryz.prog.eqGuardType Tryz.prog.depth 94 = false := by kernel_rfl
theorem eqlSeats (w : World) (us vs : List Int) (ha : us.length = 8) (hb : vs.length = 8) :
    (binOp .eql 94 (.agg (I us).toArray) (.agg (I vs).toArray)).run Tryz.prog w = .ok (.bool (decide (us = vs))) w := by
  rw [run_eql_struct, equal_ints w 9998 8 94 3 us vs ha hb Tryz.underlying94 Tryz.underlying3 infoIntCell]
  rfl
theorem neqSeats (w : World) (us vs : List Int) (ha : us.length = 8) (hb : vs.length = 8) :
    (binOp .neq 94 (.agg (I us).toArray) (.agg (I vs).toArray)).run Tryz.prog w = .ok (.bool (!decide (us = vs))) w := by
  rw [run_neq_struct, equal_ints w 9998 8 94 3 us vs ha hb Tryz.underlying94 Tryz.underlying3 infoIntCell]
  rfl
end Go.Proofs.YtgeeifjbfceogaaGreatDoor
namespace Go.Proofs.YtgeeifjbfceogaaGreatDoor
open Go Go.RowKit

def SeatsPost (zs : List Int) (w : World) (e : Ending) (w' : World) : Prop := e = .returned (.agg (I (seats zs)).toArray) ∧ Below w.heap.size w w'
theorem row_eight (w : World) (t : TypeId) (x : Value) : (w.alloc (.cells #[x, x, x, x, x, x, x, x] t)).rowIs w.heap.size t 8 (fun _ => x) :=
  ⟨_, heap_alloc_new w _, rfl, fun i hi => by
    match i, hi with
    | 0, _ => rfl
    | 1, _ => rfl
    | 2, _ => rfl
    | 3, _ => rfl
    | 4, _ => rfl
    | 5, _ => rfl
    | 6, _ => rfl
    | 7, _ => rfl⟩
theorem rowAlloc {w : World} {b t n : Nat} {f : Nat → Value} (h : w.rowIs b t n f) (o : Obj) : (w.alloc o).rowIs b t n f := (rowStep (Lib.hid h) ((Below.refl _ _).alloc (Nat.le_refl _) o)).out

theorem infoSeats : (Tryz.prog.info? 94).map (·.size) = some 8 := by kernel_rfl
theorem infoIntSize : (Tryz.prog.info? 3).map (·.size) = some 1 := by kernel_rfl
theorem RI.src {w : World} {A : Option Addr} {n : Nat} {zs : List Int} (h : RI w A n zs) (hp : 0 < (I zs).length) : ∃ ad, A = some ad ∧ ∀ j v, (I zs)[j]? = some v → w.cell? (ad.add j) = some v := by
  rw [I_length, h.1] at hp
  obtain ⟨b, off, rfl, _, hc⟩ := h.2 hp
  refine ⟨_, rfl, fun j u hu => ?_⟩
  have hj : j < zs.length := by
    rcases Nat.lt_or_ge j zs.length with h | h
    · exact h
    · rw [List.getElem?_eq_none (by rw [I_length]; exact h)] at hu; cases hu
  rw [I_at hj] at hu
  injection hu with hu
  subst hu
  have := hc j (by have := h.1; omega)
  unfold Addr.add
  by_cases h0 : j = 0
  · subst h0; first | (simp; done) | simpa using this
  · simpa [h0] using this
theorem splice_seats {zs : List Int} {c3 : Array Value} (hs : c3.size = 8) (hc : ∀ i, i < 8 → c3[i]? = some (.int .i64 (i : Int))) (hn : zs.length ≤ 8) : splice c3.toList 0 (I zs) = I (seats zs) := by
  apply List.ext_getElem?
  intro j
  have hl : (I zs).length = zs.length := I_length zs
  simp only [splice, List.take_zero, List.nil_append, Nat.zero_add]
  by_cases h8 : j < 8
  · rw [I_at (by rw [seats_length]; exact h8)]
    have hg : gi (seats zs) j = if j < zs.length then gi zs j else (j : Int) := by
      rw [gi_lt (by rw [seats_length]; exact h8)]; simp [seats]
    rw [hg]
    by_cases hj : j < zs.length
    · rw [if_pos hj, List.getElem?_append_left (by omega), I_at hj]
    · rw [if_neg hj, List.getElem?_append_right (by omega), List.getElem?_drop, hl, show zs.length + (j - zs.length) = j by omega]
      have := hc j h8
      simpa using this
  · rw [List.getElem?_eq_none (by simp [hs, hl]; omega), List.getElem?_eq_none (by rw [I_length, seats_length]; omega)]

theorem copied {w4 : World} {b : Nat} {L L' : List Value} {arr : Array Value} {t : TypeId} (h : Hid (w4.heap[b]? = some (.cells L.toArray t (0, 0)))) (hs : Hid (L = L')) (ha : Hid (arr = L'.toArray)) : Hid (w4.heap[b]? = some (.cells arr t (0, 0))) := by
  have h1 := h.out
  rw [hs.out, ← ha.out] at h1
  exact h1
theorem below2 {wr w4 : World} {b : Nat} {x : Option Obj} (hb : Below (b + 1) wr w4) (h : Hid (wr.heap[b]? = x)) : Hid (w4.heap[b]? = x) := (hb.block b (Nat.lt_succ_self _)).trans h.out
theorem below4 {w wr w4 : World} {b : Nat} (h : Hid (Below b w wr)) (hb : Below (b + 1) wr w4) : Hid (Below b w w4) := h.out.trans (hb.mono (Nat.le_succ _))

set_option maxRecDepth 100000 in
set_option maxHeartbeats 600000 in
theorem seatsOf_any (A : Option Addr) (n c : Nat) (zs : List Int) (w : World) (h : RI w A n zs) (hn : n ≤ 8) : Calls Tryz.prog 87 #[.slice A n c] w (SeatsPost zs w) := by
  go_enter Tryz.func87, Tryz.ntmps87
  go_wp2
  go_loopw [4, 5] (fun _ i wr => ∃ k : Nat, k ≤ 8 ∧ i = .int .i64 k ∧ wr.rowIs (w.heap.size + 1) 94 8 (fun j => if j < k then .int .i64 (j : Int) else .int .i64 0) ∧ wr.rowIs w.heap.size 94 8 (fun _ => .int .i64 0) ∧ Below w.heap.size w wr) (fun _ i _ => 8 - (intOf i).toNat)
  case atStart =>
    refine ⟨0, Nat.zero_le _, rfl, ?_, rowAlloc (row_eight w _ _) _, ((Below.refl _ _).alloc (Nat.le_refl _) _).alloc (by simp) _⟩
    have := row_eight (w.alloc (.cells #[.int .i64 0, .int .i64 0, .int .i64 0, .int .i64 0, .int .i64 0, .int .i64 0, .int .i64 0, .int .i64 0] 94)) 94 (.int .i64 0)
    rw [World.size_alloc] at this
    exact this.congr (fun j _ => by simp)
  case round =>
    obtain ⟨k, hk, rfl, hr3, hr2, hb⟩ := hrel
    have HR3 := Lib.hid hr3
    have HR2 := Lib.hid hr2
    have HB := Lib.hid hb
    by_cases hlt : k < 8
    · have hd := hr3.cell hlt
      have hf := hr3.frozen k
      simp only [Nat.lt_irrefl, if_false] at hd
      clear hr3 hr2 hb
      go_wp2
      go_roundw
      case rel =>
        refine ⟨k + 1, by omega, by go_num, (HR3.out.set k _).congr (fun j hj => ?_), HR2.out.setOther (by simp) _, HB.out.setCell (by simp) _⟩
        by_cases e : j = k
        · simp [e]
        · by_cases e2 : j < k
          · simp [e, e2, show j < k + 1 by omega]
          · simp [e, e2, show ¬ j < k + 1 by omega]
      case measure => simp [intOf]; omega
    · obtain rfl : k = 8 := by omega
      obtain ⟨c3, hh3, hs3, hc3⟩ := hr3
      obtain ⟨c2, hh2, hs2, hc2⟩ := hr2
      clear hb hlt hk
      have H3 := Lib.hid hh3
      have H2 := Lib.hid hh2
      have HC3 := Lib.hid hc3
      have hri : RI wr A n zs := h.below HB.out (Nat.le_refl _)
      have HSP := Lib.hid (splice_seats (zs := zs) hs3 (fun i hi => by rw [hc3 i hi]; simp [hi]) (by rw [h.1]; exact hn))
      have HZL := Lib.hid h.1
      obtain ⟨arr, harr⟩ : ∃ arr, arr = (I (seats zs)).toArray := ⟨_, rfl⟩
      have HARR := Lib.hid harr
      have hasz : Hid (arr.size = 8) := by show arr.size = 8; rw [harr]; simp [I_length, seats_length]
      have haone : Hid (arr.all (·.oneCell') = true) := by
        show arr.all (·.oneCell') = true
        rw [harr, Array.all_eq_true_iff_forall_mem]
        intro x hx
        exact I_one _ x (by simpa using hx)
      clear hh3 hh2 hc3 hc2 harr
      go_wp2_with (first
        | (refine wpList_copy_splice (o := ⟨some 14, _, _, _, _, _⟩) rfl (.tmp 12) (.tmp 13) 22 22 rfl 3 Tryz.underlying22 infoIntSize (some ⟨w.heap.size + 1, 0, none⟩) A 8 8 n c rfl rfl (w.heap.size + 1) 0 c3.toList 94 (by rw [Array.toArray_toList]; exact H3.out) (I zs) (by rw [I_length, HZL.out]; exact (Nat.min_eq_left hn).symm) (fun hp => ⟨rfl, hri.src hp⟩) (by rw [I_length, HZL.out, Array.length_toList, hs3]; omega) (I_one zs) (w.heap.size + 1) wr (Below.refl _ _) (Nat.le_refl _) ?_; intro w4 hh4 hb4; have HH4 := copied hh4 HSP HARR; have HH2 := below2 hb4 H2; have HB4 := below4 HB hb4; clear hh4 hb4)
        | (with_reducible refine wpList_load_row (o := ⟨some 15, _, _, _, _, _⟩) rfl 94 (.tmp 3) rfl (w.heap.size + 1) rfl 94 arr (0, 0) _ HH4.out Tryz.underlying94 rfl (by rw [hasz.out]; exact infoSeats) ?_; revert HB4))
      intro HB4
      refine wpList_store_row rfl 94 (.tmp 2) (.tmp 15) rfl w.heap.size arr rfl rfl 94 c2 HH2.out (by rw [hasz.out]; exact infoSeats) (by rw [hasz.out]; exact hs2) haone.out ?_
      have hfin := setRow_heap w4 w.heap.size c2 arr 94 (0, 0) HH2.out
      have HF := Lib.hid hfin
      clear hfin
      go_wp2
      refine bodyPost_ret (results_cell_row rfl _ _ w.heap.size 94 arr (0, 0) _ rfl HF.out Tryz.underlying94 rfl (by rw [hasz.out]; exact infoSeats)) rfl ⟨?_, below_setRow HB4.out (Nat.le_refl _) _⟩
      rw [HARR.out]
end Go.Proofs.YtgeeifjbfceogaaGreatDoor
namespace Go.Proofs.YtgeeifjbfceogaaGreatDoor
open Go Go.RowKit

theorem cells_sorted {cs : Array Value} {ts : List Int} (hs : cs.size = ts.length) : Go.Sort.putCells (Value.int .i64) 0 ts.toArray cs = (I ts).toArray := by
  have h := take_putCellsI cs ts (by omega)
  have hl : (Go.Sort.putCells (Value.int .i64) 0 ts.toArray cs).toList.length = ts.length := by simp [Go.Sort.putCells, hs]
  rw [List.take_of_length_le (by omega)] at h
  rw [← Array.toArray_toList (xs := Go.Sort.putCells (Value.int .i64) 0 ts.toArray cs), h]
  rfl

def SortPost (g : Nat) (zs : List Int) (t : TypeId) (w : World) (e : Ending) (w' : World) : Prop :=
  e = .returned (.tuple #[]) ∧ w'.heap[g]? = some (.cells (I (srt zs)).toArray t (0, 0)) ∧ w.grownBy w' (some g)
theorem sortArr_any (g : Nat) (zs : List Int) (t : TypeId) (w : World) (hg : w.heap[g]? = some (.cells (I zs).toArray t (0, 0))) (hl : zs.length = 8) :
    Calls Tryz.prog 88 #[.slice (some ⟨g, 0, none⟩) 8 8] w (SortPost g zs t w) := by
  have hlt : g < w.heap.size := (Array.getElem?_eq_some_iff.1 hg).1
  have h := slices_Sort_int g 0 8 zs w (holds_of_blockI hg (by simp [I, List.take_of_length_le])) hlt (by omega)
  rw [hl] at h
  refine h.mono ?_
  rintro e w' ⟨rfl, n, os, rfl⟩
  refine ⟨rfl, ?_, grownBy_sortedI _⟩
  rw [heap_sortedI _ hg, cells_sorted (by simp [I])]
  simp
  rfl

theorem setRow_new (w : World) (t : TypeId) (old cs : Array Value) : (w.alloc (.cells old t)).setRow w.heap.size cs = w.alloc (.cells cs t) := by
  unfold World.setRow World.alloc
  congr 1
  apply Array.ext
  · simp
  · intro i h1 h2
    simp only [Array.getElem_modify]
    by_cases e : w.heap.size = i
    · subst e; simp
    · have hi : i < w.heap.size := by simp at h1; omega
      simp [e, Array.getElem_push_lt hi]
theorem storeNew8 (w : World) (t : TypeId) (x : Value) (zs : List Int) (h8 : zs.length = 8) :
    (storeCells ⟨w.heap.size, 0, none⟩ (I zs)).run Tryz.prog (w.alloc (.cells #[x, x, x, x, x, x, x, x] t)) = .ok () (w.alloc (.cells (I zs).toArray t)) := by
  rw [run_storeCells_from w.heap.size t (I zs) 0 #[x, x, x, x, x, x, x, x] _ (heap_alloc_new w _) (by simp [I, h8]) (fun v hv => I_one zs v hv), List.take_zero, List.nil_append, setRow_new]

theorem ord_no {zs : List Int} (h : ¬ (1 ≤ zs.length ∧ zs.length ≤ 8)) : ord zs = false := by
  unfold ord; rw [decide_eq_false_iff_not]; rintro ⟨h1, h2, _⟩; exact h ⟨h1, h2⟩

set_option maxRecDepth 100000 in
set_option maxHeartbeats 600000 in
theorem iIsOrder_any (A : Option Addr) (n c : Nat) (zs : List Int) (w : World) (h : RI w A n zs) (hn : n ≤ 9223372036854775807) : Calls Tryz.prog 68 #[.slice A n c] w (RetB (ord zs) w) := by
  have hln := h.1
  by_cases h0 : n < 1
  · have E := Lib.hid (ord_no (zs := zs) (by omega))
    go_enter Tryz.func68, Tryz.ntmps68
    go_wp2_with fail
    go_ret
    exact ⟨ret_b E.out.symm, Below.refl _ _⟩
  by_cases h8 : 8 < n
  · have E := Lib.hid (ord_no (zs := zs) (by omega))
    go_enter Tryz.func68, Tryz.ntmps68
    go_wp2_with fail
    go_ret
    exact ⟨ret_b E.out.symm, Below.refl _ _⟩
  have E := Lib.hid (seats_ord (zs := zs) (by omega) (by omega))
  go_enter Tryz.func68, Tryz.ntmps68
  go_wp2_with fail
  refine (seatsOf_any A n c zs _ h (by omega)).mono ?_
  rintro e w1 ⟨rfl, hb⟩
  have HB := Lib.hid hb
  clear hb
  have hI : (I (seats zs)).length = 8 := by rw [I_length, seats_length]
  have hst := storeNew8 w1 94 (.int .i64 0) (seats zs) (seats_length zs)
  go_wp2_with fail
  refine (sortArr_any w1.heap.size (seats zs) 94 _ (heap_alloc_new w1 _) (seats_length zs)).mono ?_
  rintro e w2 ⟨rfl, hh2, hg2⟩
  clear hst
  have HB2 : Hid (Below w.heap.size w w2) := (HB.out.alloc HB.out.size (.cells (I (seats zs)).toArray 94)).trans (Below.of_grown (A := some ⟨w1.heap.size, 0, none⟩) hg2 (fun b hb => by simp [blk] at hb; have := HB.out.size; omega) (by simp; have := HB.out.size; omega))
  clear hg2
  obtain ⟨ys, hys⟩ : ∃ ys, ys = srt (seats zs) := ⟨_, rfl⟩
  rw [← hys] at hh2
  have HY := Lib.hid hys
  have hyl : ys.length = 8 := by rw [hys, srt_length, seats_length]
  clear hys
  have hguard := guardSeats
  have heql : ∀ w' : World, (binOp .eql 94 (.agg #[.int .i64 (gi ys 0), .int .i64 (gi ys 1), .int .i64 (gi ys 2), .int .i64 (gi ys 3), .int .i64 (gi ys 4), .int .i64 (gi ys 5), .int .i64 (gi ys 6), .int .i64 (gi ys 7)]) (.agg (I (seats [])).toArray)).run Tryz.prog w' = .ok (.bool (decide (ys = seats []))) w' := fun w' => by rw [arr8 hyl]; exact eqlSeats w' ys (seats []) hyl (seats_length [])
  have hz : w1.heap.size < w2.heap.size := (Array.getElem?_eq_some_iff.1 hh2).1
  have HZ := Lib.hid hz
  have HH2 := Lib.hid hh2
  clear hh2
  go_wp2_with fail
  have HBD := belDrew HB2
  go_region_held3 (fun w' => w'.cell? ⟨w1.heap.size, 0, none⟩ = some (.int .i64 (gi ys 0)) ∧ w'.cell? ⟨w1.heap.size, 1, none⟩ = some (.int .i64 (gi ys 1)) ∧ w'.cell? ⟨w1.heap.size, 2, none⟩ = some (.int .i64 (gi ys 2)) ∧ w'.cell? ⟨w1.heap.size, 3, none⟩ = some (.int .i64 (gi ys 3)) ∧ w'.cell? ⟨w1.heap.size, 4, none⟩ = some (.int .i64 (gi ys 4)) ∧ w'.cell? ⟨w1.heap.size, 5, none⟩ = some (.int .i64 (gi ys 5)) ∧ w'.cell? ⟨w1.heap.size, 6, none⟩ = some (.int .i64 (gi ys 6)) ∧ w'.cell? ⟨w1.heap.size, 7, none⟩ = some (.int .i64 (gi ys 7)))
    (first | exact cells8 hyl HH2.out | exact cells8 hyl HH3.out)
    (first
      | (go_at_call 87; refine (seatsOf_any none 0 0 [] _ ⟨rfl, fun h => absurd h (by omega)⟩ (by omega)).mono ?_; rintro e w3 ⟨rfl, hb3⟩; have HH3 : Hid (w3.heap[w1.heap.size]? = some (.cells (I ys).toArray 94 (0, 0))) := (hb3.block w1.heap.size HZ.out).trans HH2.out; have HB3 := belStep HBD hb3; clear hb3))
  go_wp2
  go_ret
  refine ⟨ret_b ?_, HB3.out⟩
  rw [HY.out, seats_nil]
  exact Bool.eq_iff_iff.2 ⟨fun h => E.out.1 (of_decide_eq_true h), fun h => decide_eq_true (E.out.2 h)⟩
end Go.Proofs.YtgeeifjbfceogaaGreatDoor
namespace Go.Proofs.YtgeeifjbfceogaaGreatDoor
open Go Go.RowKit

def has (zs : List Int) (x : Int) : Bool := decide (x ∈ zs)
theorem has_yes {zs : List Int} {x : Int} {j : Nat} (hj : j < zs.length) (h : gi zs j = x) : has zs x = true := decide_eq_true (mem_gi.2 ⟨j, hj, h⟩)
theorem has_no {zs : List Int} {x : Int} (h : ∀ j, j < zs.length → gi zs j ≠ x) : has zs x = false := by
  unfold has; rw [decide_eq_false_iff_not, mem_gi]; rintro ⟨j, hj, e⟩; exact h j hj e

set_option maxHeartbeats 400000 in
theorem l1Has_any (A : Option Addr) (n c : Nat) (zs : List Int) (x : Int) (w : World) (h : RI w A n zs) (hn : n ≤ 1048576) :
    Calls Tryz.prog 76 #[.slice A n c, .int .i64 x] w (SameB (has zs x) w) := by
  go_enter Tryz.func76, Tryz.ntmps76
  go_wp2
  go_loop [6, 9] (fun _ i => ∃ k : Nat, k ≤ n ∧ i = .int .i64 k ∧ ∀ j, j < k → gi zs j ≠ x) (fun _ i => n - (intOf i).toNat)
  case atStart => exact ⟨0, Nat.zero_le _, rfl, fun j hj => absurd hj (by omega)⟩
  case round =>
    obtain ⟨k, hk, rfl, hall⟩ := hrel
    have H3 := Lib.hid hall
    clear hall
    by_cases hlt : k < n
    · obtain ⟨b, off, rfl, hbw, hc⟩ := h.cell hlt
      have hck := hc k hlt
      clear hc
      by_cases hx : gi zs k = x
      · have e1 : (gi zs k == x) = true := beq_iff_eq.2 hx
        have HX := Lib.hid (has_yes (by rw [h.1]; exact hlt) hx)
        clear hx
        go_wp2
        go_ret
        exact ⟨ret_b HX.out.symm, rfl⟩
      · have e1 : (gi zs k == x) = false := beq_eq_false_iff_ne.2 hx
        have HX := Lib.hid hx
        clear hx
        go_wp2
        go_round
        case rel =>
          refine ⟨k + 1, by omega, by go_num, fun j hj => ?_⟩
          by_cases e : j = k
          · rw [e]; exact HX.out
          · exact H3.out j (by omega)
        case measure => simp [intOf]; omega
    · obtain rfl : k = n := by omega
      go_wp2
      go_ret
      exact ⟨ret_b (has_no (by rw [h.1]; exact H3.out)).symm, rfl⟩

theorem gi_take {zs : List Int} {k j : Nat} (hj : j < k) : gi (zs.take k) j = gi zs j := by simp [gi, List.getD, hj]

theorem ord_yes {zs : List Int} (h1 : inB zs.length 1 8 = true) (h : ∀ j, j < zs.length → inB (gi zs j) 0 (zs.length - 1) = true ∧ has (zs.take j) (gi zs j) = false) : ord zs = true := by
  have h1 := inB_iff.1 h1
  refine ord_iff.2 ⟨by omega, by omega, fun x hx => ?_, nodup_gi.2 fun i j hij hj e => ?_⟩
  · obtain ⟨j, hj, rfl⟩ := mem_gi.1 hx
    have := inB_iff.1 (h j hj).1
    omega
  · have h2 := (h j hj).2
    rw [has_yes (zs := zs.take j) (j := i) (by simp; omega) (by rw [gi_take hij]; exact e)] at h2
    cases h2
theorem ord_no1 {zs : List Int} (h1 : inB zs.length 1 8 = false) : ord zs = false := ord_no (fun h => by
  have : inB zs.length 1 8 = true := inB_iff.2 ⟨by omega, by omega⟩
  rw [this] at h1; cases h1)
theorem ord_no2 {zs : List Int} {j : Nat} (hj : j < zs.length) (h : inB (gi zs j) 0 (zs.length - 1) = false) : ord zs = false := by
  rw [← Bool.not_eq_true, ord_iff]
  rintro ⟨_, _, h3, _⟩
  have := h3 _ (mem_gi.2 ⟨j, hj, rfl⟩)
  rw [inB_true ⟨by omega, by omega⟩] at h; cases h
theorem ord_no3 {zs : List Int} {j : Nat} (hj : j < zs.length) (h : has (zs.take j) (gi zs j) = true) : ord zs = false := by
  rw [← Bool.not_eq_true, ord_iff]
  rintro ⟨_, _, _, h4⟩
  obtain ⟨i, hi, e⟩ := mem_gi.1 (of_decide_eq_true h)
  have hi2 : i < j := by simp at hi; omega
  rw [gi_take hi2] at e
  exact nodup_gi.1 h4 i j hi2 hj e

set_option maxHeartbeats 400000 in
theorem laOrder_any (A : Option Addr) (n c : Nat) (zs : List Int) (w : World) (h : RI w A n zs) (hn : n ≤ 1048576) (hnc : n ≤ c) :
    Calls Tryz.prog 66 #[.slice A n c] w (SameB (ord zs) w) := by
  have hl := h.1
  rcases h1 : inB (n : Int) 1 8 with _ | _
  · have H1 := Lib.hid h1
    have E := Lib.hid (ord_no1 (zs := zs) (by rw [hl]; exact h1))
    clear h1
    go_enter Tryz.func66, Tryz.ntmps66
    go_wp2_with (go_at_call 52; refine (l1In_any _ _ _ _).mono ?_; rw [H1.out]; rintro e w' ⟨rfl, rfl⟩)
    go_ret
    exact ⟨ret_b E.out.symm, rfl⟩
  have H1 := Lib.hid h1
  have HL := Lib.hid hl
  clear h1 hl
  go_enter Tryz.func66, Tryz.ntmps66
  go_wp2_with (go_at_call 52; refine (l1In_any _ _ _ _).mono ?_; rw [H1.out]; rintro e w' ⟨rfl, rfl⟩)
  go_loop [3, 4, 11] (fun _ _ i => ∃ k : Nat, k ≤ n ∧ i = .int .i64 k ∧ ∀ j, j < k → inB (gi zs j) 0 (n - 1) = true ∧ has (zs.take j) (gi zs j) = false) (fun _ _ i => n - (intOf i).toNat)
  case atStart => exact ⟨0, Nat.zero_le _, rfl, fun j hj => absurd hj (by omega)⟩
  case round =>
    obtain ⟨k, hk, rfl, hall⟩ := hrel
    have H3 := Lib.hid hall
    clear hall
    by_cases hlt : k < n
    · have HT := Lib.hid (h.take hk)
      obtain ⟨b, off, rfl, hbw, hc⟩ := h.cell hlt
      have hck := hc k hlt
      clear hc
      have hkc : (k : Int) ≤ c := by omega
      obtain ⟨q, hq⟩ : ∃ q, q = inB (gi zs k) 0 (n - 1) := ⟨_, rfl⟩
      have HQ := Lib.hid hq
      clear hq
      obtain ⟨q2, hq2⟩ : ∃ q, q = has (zs.take k) (gi zs k) := ⟨_, rfl⟩
      have HQ2 := Lib.hid hq2
      clear hq2
      cases q with
      | false =>
        go_wp2_with (first
          | (go_at_call 52; refine (l1In_any _ _ _ _).mono ?_; rw [← HQ.out]; rintro e w' ⟨rfl, rfl⟩))
        go_ret
        exact ⟨ret_b (ord_no2 (by rw [HL.out]; exact hlt) (by rw [HL.out]; exact HQ.out.symm)).symm, rfl⟩
      | true =>
        cases q2
        all_goals
          go_wp2_with (first
            | (go_at_call 52; refine (l1In_any _ _ _ _).mono ?_; rw [← HQ.out]; rintro e w' ⟨rfl, rfl⟩)
            | (go_at_call 76; refine (l1Has_any _ _ _ _ _ _ HT.out (by omega)).mono ?_; rw [← HQ2.out]; rintro e w' ⟨rfl, rfl⟩))
        · go_round
          case rel =>
            refine ⟨k + 1, by omega, by go_num, fun j hj => ?_⟩
            by_cases e : j = k
            · rw [e]; exact ⟨HQ.out.symm, HQ2.out.symm⟩
            · exact H3.out j (by omega)
          case measure => simp [intOf]; omega
        · go_ret
          exact ⟨ret_b (ord_no3 (by rw [HL.out]; exact hlt) HQ2.out.symm).symm, rfl⟩
    · obtain rfl : k = n := by omega
      go_wp2
      go_ret
      exact ⟨ret_b (ord_yes (by rw [HL.out]; exact H1.out) (by rw [HL.out]; exact H3.out)).symm, rfl⟩

end Go.Proofs.YtgeeifjbfceogaaGreatDoor
