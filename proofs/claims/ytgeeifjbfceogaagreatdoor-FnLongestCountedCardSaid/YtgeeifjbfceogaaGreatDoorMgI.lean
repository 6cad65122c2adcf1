/- Reading texts back: what a text of numbers is cut, split and read into. Nothing of the program is said here. The contract by which the program reads a list of numbers. -/
import Derived.Test.YtgeeifjbfceogaaGreatDoorMgH
import Derived.Test.YtgeeifjbfceogaaGreatDoorTxt2
import Derived.Lib.CountLaws
import Derived.Lib.SplitLaws
import Derived.Test.YtgeeifjbfceogaaGreatDoorMgD
import Derived.Lib.SmallJoins
namespace Go.Proofs.YtgeeifjbfceogaaGreatDoor
open Go

theorem index_no {l : List UInt8} {b : UInt8} (h : b ∉ l) : Lib.index l [b] = -1 := by
  induction l with
  | nil => rfl
  | cons a r ih =>
    simp only [List.mem_cons, not_or] at h
    unfold Lib.index
    rw [ih h.2]
    have : [b].isPrefixOf (a :: r) = false := by simp [List.isPrefixOf, h.1]
    rw [this]; rfl
theorem index_at {xs r : List UInt8} {b : UInt8} (h : b ∉ xs) : Lib.index (xs ++ b :: r) [b] = (xs.length : Int) := by
  induction xs with
  | nil => simp [Lib.index, List.isPrefixOf]
  | cons a t ih =>
    simp only [List.mem_cons, not_or] at h
    rw [List.cons_append]
    unfold Lib.index
    rw [ih h.2]
    have : [b].isPrefixOf (a :: (t ++ b :: r)) = false := by simp [List.isPrefixOf, h.1]
    rw [this]
    have e : (((t.length : Int)) == -1) = false := by simp
    simp [e]
theorem cut_at {xs r : List UInt8} {b : UInt8} (h : b ∉ xs) : Lib.cut (xs ++ b :: r) [b] = (xs, r, true) := by
  unfold Lib.cut
  rw [index_at h, if_pos (by omega)]
  simp

/-- a digit's byte -/
theorem dig_ne {n : Nat} (h : n < 10) : UInt8.ofNat (48 + n) ≠ 44 ∧ UInt8.ofNat (48 + n) ≠ 58 ∧ UInt8.ofNat (48 + n) ≠ 45 := by
  have : ∀ n : Fin 10, UInt8.ofNat (48 + n.val) ≠ 44 ∧ UInt8.ofNat (48 + n.val) ≠ 58 ∧ UInt8.ofNat (48 + n.val) ≠ 45 := by decide
  exact this ⟨n, h⟩
theorem atoi_dig {x : Int} (h : 0 ≤ x ∧ x < 10) : Lib.atoiAll (numT x) = .ok x := by
  obtain ⟨n, rfl⟩ : ∃ n : Nat, x = (n : Int) := ⟨x.toNat, by omega⟩
  rw [numT_small (by omega)]
  have : ∀ n : Fin 10, Lib.atoiAll [UInt8.ofNat (48 + n.val)] = .ok ((n.val : Nat) : Int) := by decide
  exact this ⟨n, by omega⟩
theorem numT_not {x : Int} (h : 0 ≤ x ∧ x < 10) : (44 : UInt8) ∉ numT x ∧ (58 : UInt8) ∉ numT x := by
  obtain ⟨n, rfl⟩ : ∃ n : Nat, x = (n : Int) := ⟨x.toNat, by omega⟩
  rw [numT_small (by omega)]
  have := dig_ne (n := n) (by omega)
  simp only [List.mem_singleton]
  exact ⟨fun e => this.1 e.symm, fun e => this.2.1 e.symm⟩

/-- what the pieces say, if each says a number -/
def allOk : List (List UInt8) → Option (List Int)
  | [] => some []
  | p :: r => match Lib.atoiAll p with
    | .ok v => (allOk r).map (v :: ·)
    | _ => none
def pieces (t : List UInt8) : List (List UInt8) := Lib.splitK [44] 0 (Lib.count t [44]) t
def rl (t : List UInt8) : Option (List Int) := if t = [45] then some [] else allOk (pieces t)
def pl (l : List UInt8) : Option (Int × List Int) :=
  match Lib.atoiAll (Lib.cut l [58]).1 with
  | .ok v => (rl (Lib.cut l [58]).2.1).map (v, ·)
  | _ => none
/-- the ladder whose text this is -/
def resX (l : List UInt8) : Option (Int × List Int) :=
  match pl l with
  | some (v, vs) => if lad v vs = true ∧ textT v vs = l then some (v, vs) else none
  | none => none

theorem pieces_join : ∀ (x : Int) (r : List Int), (∀ z ∈ x :: r, 0 ≤ z ∧ z < 10) →
    Lib.count (Lib.join ((x :: r).map numT) [44]) [44] = r.length ∧ Lib.splitK [44] 0 r.length (Lib.join ((x :: r).map numT) [44]) = (x :: r).map numT := by
  intro x r
  induction r generalizing x with
  | nil =>
    intro h
    have h1 := (numT_not (h x (by simp))).1
    rw [List.map_cons, List.map_nil, Lib.join_one]
    exact ⟨Lib.count_miss (index_no h1), rfl⟩
  | cons y r ih =>
    intro h
    have h1 := (numT_not (h x (by simp))).1
    obtain ⟨i1, i2⟩ := ih y (fun z hz => h z (List.mem_cons_of_mem _ hz))
    have e : Lib.join ((x :: y :: r).map numT) [44] = numT x ++ 44 :: Lib.join ((y :: r).map numT) [44] := by
      simp only [Lib.join, List.map_cons, List.intercalate, List.intersperse]
      simp
    have hi : Lib.index (numT x ++ 44 :: Lib.join ((y :: r).map numT) [44]) [44] = ((numT x).length : Int) := index_at h1
    have hd : (numT x ++ 44 :: Lib.join ((y :: r).map numT) [44]).drop ((numT x).length + [(44 : UInt8)].length) = Lib.join ((y :: r).map numT) [44] := by
      simp
    rw [e]
    constructor
    · rw [Lib.count_hit (by simp) hi, hd, i1]; simp; omega
    · simp only [List.length_cons]
      unfold Lib.splitK
      have hm : (Lib.index (numT x ++ 44 :: Lib.join ((y :: r).map numT) [44]) [44] == -1) = false := by rw [hi]; simp
      rw [if_neg (by rw [hm]; simp), hi, Int.toNat_natCast, hd, i2]
      simp
theorem allOk_nums : ∀ (zs : List Int), (∀ z ∈ zs, 0 ≤ z ∧ z < 10) → allOk (zs.map numT) = some zs := by
  intro zs
  induction zs with
  | nil => intro _; rfl
  | cons z r ih =>
    intro h
    rw [List.map_cons]
    unfold allOk
    rw [atoi_dig (h z (by simp)), ih (fun y hy => h y (List.mem_cons_of_mem _ hy))]
    rfl
theorem dig_mem {zs : List Int} (h : Dig zs) : ∀ z ∈ zs, 0 ≤ z ∧ z < 10 := by
  intro z hz
  obtain ⟨j, hj, e⟩ := List.mem_iff_getElem.1 hz
  have := h j hj
  rw [gi_lt hj, e] at this
  exact this
theorem rl_nums {zs : List Int} (h : Dig zs) : rl (numsT zs) = some zs := by
  match zs, h with
  | [], _ => rfl
  | x :: r, h =>
    have hm := dig_mem h
    have hj := join_nums (zs := x :: r) (by simp)
    obtain ⟨h1, h2⟩ := pieces_join x r hm
    rw [hj] at h1 h2
    have hx := hm x (by simp)
    obtain ⟨n, hn⟩ : ∃ n : Nat, x = (n : Int) := ⟨x.toNat, by omega⟩
    have hne : numsT (x :: r) ≠ [45] := by
      rw [← hj]
      intro e
      have e2 : (Lib.join ((x :: r).map numT) [44]).head? = some (UInt8.ofNat (48 + n)) := by
        rw [List.map_cons, hn, numT_small (by omega), Lib.join_cons]; rfl
      rw [e] at e2
      simp only [List.head?_cons, Option.some.injEq] at e2
      exact (dig_ne (n := n) (by omega)).2.2 e2.symm
    unfold rl
    rw [if_neg hne]
    unfold pieces
    rw [h1, h2]
    exact allOk_nums _ hm
theorem pl_text {W : Int} {zs : List Int} (h : lad W zs = true) : pl (textT W zs) = some (W, zs) := by
  have hW := (lad_iff.1 h).1
  have hd := lad_dig h
  have hc : Lib.cut (textT W zs) [58] = (numT W, numsT zs, true) := by
    unfold textT
    rw [List.append_assoc, List.singleton_append]
    exact cut_at (numT_not (by omega)).2
  unfold pl
  rw [hc]
  simp only [atoi_dig (show 0 ≤ W ∧ W < 10 by omega), rl_nums hd, Option.map_some]
theorem res_text {W : Int} {zs : List Int} (h : lad W zs = true) : resX (textT W zs) = some (W, zs) := by
  unfold resX
  rw [pl_text h]
  simp [h]
theorem res_some {l : List UInt8} {v : Int} {vs : List Int} (h : resX l = some (v, vs)) : lad v vs = true ∧ textT v vs = l := by
  unfold resX at h
  split at h
  · split at h
    · rename_i hc
      injection h with h
      injection h with h1 h2
      subst h1; subst h2
      exact hc
    · cases h
  · cases h
theorem allOk_no {L : List (List UInt8)} {p : List UInt8} (hp : p ∈ L) (h : ∀ v, Lib.atoiAll p ≠ .ok v) : allOk L = none := by
  induction L with
  | nil => cases hp
  | cons q r ih =>
    unfold allOk
    rcases List.mem_cons.1 hp with e | e
    · subst e
      split
      · rename_i v hv; exact absurd hv (h v)
      · rfl
    · split
      · rw [ih e]; rfl
      · rfl
def valOf (p : List UInt8) : Int := match Lib.atoiAll p with
  | .ok v => v
  | _ => 0
theorem allOk_yes {L : List (List UInt8)} (h : ∀ p ∈ L, ∃ v, Lib.atoiAll p = .ok v) : allOk L = some (L.map valOf) := by
  induction L with
  | nil => rfl
  | cons q r ih =>
    obtain ⟨v, hv⟩ := h q (by simp)
    unfold allOk
    rw [ih (fun p hp => h p (List.mem_cons_of_mem _ hp))]
    simp only [hv, Option.map_some, List.map_cons, valOf]
end Go.Proofs.YtgeeifjbfceogaaGreatDoor
namespace Go.Proofs.YtgeeifjbfceogaaGreatDoor
open Go Go.RowKit

/-- what the library's own variables hold: some number, two errors -/
structure Glob (w : World) : Prop where
  m : ∃ m, w.cell? ⟨3, 0, none⟩ = some (.int .i64 m)
  e1 : ∃ t p, w.cell? ⟨1, 0, none⟩ = some (.iface t p)
  e2 : ∃ t p, w.cell? ⟨2, 0, none⟩ = some (.iface t p)
  lt : 2 + 1 ≤ w.heap.size
  lm : 3 + 1 ≤ w.heap.size
theorem Glob.below {wi wj : World} (h : Glob wi) (hb : Below wi.heap.size wi wj) : Glob wj := by
  obtain ⟨m, hm⟩ := h.m
  obtain ⟨t1, p1, h1⟩ := h.e1
  obtain ⟨t2, p2, h2⟩ := h.e2
  have hl := h.lt; have hm2 := h.lm
  exact ⟨⟨m, (hb.cell (p := ⟨3, 0, none⟩) (by show 3 < _; omega)).trans hm⟩, ⟨t1, p1, (hb.cell (p := ⟨1, 0, none⟩) (by show 1 < _; omega)).trans h1⟩, ⟨t2, p2, (hb.cell (p := ⟨2, 0, none⟩) (by show 2 < _; omega)).trans h2⟩, Nat.le_trans hl hb.size, Nat.le_trans hm2 hb.size⟩

theorem atoi_yes (s : ByteArray) (hs : s.size ≤ 2000000) (v : Int) (h : Lib.atoiAll s.data.toList = .ok v) (w : World) :
    Calls Tryz.prog 105 #[.string s] w fun e w' => e = .returned (.tuple #[.int .i64 v, .nilIface]) ∧ Below w.heap.size w w' := by
  refine (strconv_Atoi_ok s (by omega) v h w).mono ?_
  rintro e w' ⟨rfl, hw | ⟨t, hw⟩⟩
  · subst hw; exact ⟨rfl, Below.refl _ _⟩
  · subst hw; exact ⟨rfl, Joins.below_bytesWorld _ _ _ _ (Nat.le_refl _)⟩
theorem atoi_no (s : ByteArray) (hs : s.size ≤ 2000000) (h : ∀ v, Lib.atoiAll s.data.toList ≠ .ok v) (w : World) (hG : Glob w) :
    Calls Tryz.prog 105 #[.string s] w fun e w' => ∃ x N, e = .returned (.tuple #[.int .i64 x, .iface 151 (.pointer (some ⟨N, 0, none⟩))]) ∧ Below w.heap.size w w' := by
  rcases hq : Lib.atoiAll s.data.toList with v | _ | _
  · exact absurd hq (h v)
  · obtain ⟨t, p, h1⟩ := hG.e1
    refine (strconv_Atoi_bad s (by omega) h (by rw [hq]; intro e; cases e) _ w h1 (.inr ⟨t, p, rfl⟩)).mono ?_
    rintro e w' ⟨N, rfl, _, _, hb⟩
    exact ⟨_, N, rfl, hb⟩
  · obtain ⟨t, p, h1⟩ := hG.e2
    refine (strconv_Atoi_range s (by omega) hq _ w h1 (.inr ⟨t, p, rfl⟩)).mono ?_
    rintro e w' ⟨N, rfl, _, _, hb⟩
    exact ⟨_, N, rfl, hb⟩

theorem splitK_le {p : List UInt8} : ∀ (k : Nat) (s : List UInt8), p ∈ Lib.splitK [44] 0 k s → p.length ≤ s.length := by
  intro k
  induction k with
  | zero => intro s h; simp only [Lib.splitK, List.mem_singleton] at h; rw [h]; exact Nat.le_refl _
  | succ k ih =>
    intro s h
    unfold Lib.splitK at h
    split at h
    · simp only [List.mem_singleton] at h; rw [h]; exact Nat.le_refl _
    · rcases List.mem_cons.1 h with e | e
      · rw [e, List.length_take]; exact Nat.min_le_right _ _
      · have := ih _ e
        rw [List.length_drop] at this
        omega
def rlL (l : List UInt8) : List Int := (rl l).getD []
theorem rl_dash : rl [45] = some [] := by unfold rl; rw [if_pos rfl]

set_option maxRecDepth 100000 in
set_option maxHeartbeats 2000000 in
theorem readList_any (t : ByteArray) (w : World) (hs : t.size ≤ 2000000) (hG : Glob w) :
    Calls Tryz.prog 91 #[.string t] w (FreshIB w (rlL t.data.toList).length (rlL t.data.toList) (rl t.data.toList).isSome) := by
  by_cases h0 : t = ⟨#[45]⟩
  · subst h0
    have e : rl (⟨#[45]⟩ : ByteArray).data.toList = some [] := rl_dash
    have HN : Hid (rl (⟨#[45]⟩ : ByteArray).data.toList = some []) := e
    have HL : Hid (rlL (⟨#[45]⟩ : ByteArray).data.toList = []) := by show _ = _; unfold rlL; rw [e]; rfl
    rw [HN.out, HL.out]
    clear e
    go_enter Tryz.func91, Tryz.ntmps91
    go_wp2
    go_ret2
    exact ⟨none, 0, rfl, OI.none_ _ _, Below.refl _ _⟩
  · have hne : rl t.data.toList = allOk (pieces t.data.toList) := by
      unfold rl
      rw [if_neg]
      intro e
      exact h0 (ByteArray.ext (by apply Array.toList_inj.1; exact e))
    obtain ⟨m, hm⟩ := hG.m
    have hsp := strings_Split t ⟨#[44]⟩ m w (by omega) hm (by decide)
    obtain ⟨ps, hps⟩ : ∃ ps, ps = Lib.splitB ⟨#[44]⟩ 0 (Lib.countB t ⟨#[44]⟩) t := ⟨_, rfl⟩
    have hpl : ps.length = Lib.countB t ⟨#[44]⟩ + 1 := by rw [hps]; exact Lib.splitB_all ⟨#[44]⟩ (by decide) 0 _ t rfl
    have hpd : ps.map (·.data.toList) = pieces t.data.toList := by rw [hps, Lib.splitB_data]; rfl
    have hcl := Lib.countB_le ⟨#[44]⟩ (by decide) t.size t (Nat.le_refl _)
    have hpz : ∀ p ∈ ps, p.size ≤ 2000000 := by
      intro p hp
      have h1 : p.data.toList ∈ pieces t.data.toList := by rw [← hpd]; exact List.mem_map.2 ⟨p, hp, rfl⟩
      have h2 := splitK_le _ _ h1
      have h3 := Lib.size_eq p
      have h4 := Lib.size_eq t
      omega
    obtain ⟨n, hn⟩ : ∃ n, n = ps.length := ⟨_, rfl⟩
    rw [← hps, ← hpl, ← hn] at hsp
    obtain ⟨pc, hpc⟩ : ∃ pc : Nat → ByteArray, pc = fun j => ps.getD j ByteArray.empty := ⟨_, rfl⟩
    have hpcj : ∀ j, j < n → ps[j]? = some (pc j) := fun j hj => by rw [hpc]; simp [List.getD, show j < ps.length by omega]
    have hpm : ∀ j, j < n → pc j ∈ ps := fun j hj => List.mem_of_getElem? (hpcj j hj)
    have HZ : Hid (∀ j, j < n → (pc j).size ≤ 2000000) := fun j hj => hpz _ (hpm j hj)
    have HNO : Hid (∀ j, j < n → (∀ v, Lib.atoiAll (pc j).data.toList ≠ .ok v) → rl t.data.toList = none) := fun j hj h => by
      rw [hne, ← hpd]
      exact allOk_no (List.mem_map.2 ⟨_, hpm j hj, rfl⟩) h
    have HOK : Hid ((∀ j, j < n → ∃ v, Lib.atoiAll (pc j).data.toList = .ok v) → ∃ vs, rl t.data.toList = some vs ∧ vs.length = n ∧ ∀ j, j < n → gi vs j = valOf (pc j).data.toList) := fun h => by
      refine ⟨(ps.map (·.data.toList)).map valOf, ?_, by simp [hn], fun j hj => ?_⟩
      · rw [hne, ← hpd]
        refine allOk_yes fun p hp => ?_
        obtain ⟨q, hq, rfl⟩ := List.mem_map.1 hp
        obtain ⟨j, hj, e⟩ := List.mem_iff_getElem.1 hq
        have := h j (by omega)
        have e2 := hpcj j (by omega)
        rw [List.getElem?_eq_getElem hj, e] at e2
        injection e2 with e2
        rw [e2]
        exact this
      · have e2 := hpcj j hj
        simp [gi, List.getD, e2]
    have hcell : ∀ j, j < n → (w.alloc (.cells (ps.map Value.string).toArray 9)).cell? ⟨w.heap.size, j, none⟩ = some (.string (pc j)) := fun j hj => by
      have := hpcj j hj
      simp [this]
    have HCELL := Lib.hid hcell
    have hblk : (w.alloc (.cells (ps.map Value.string).toArray 9)).heap[w.heap.size]? = some (.cells (ps.map Value.string).toArray 9 (0, 0)) := heap_alloc_new w _
    have HBLK := Lib.hid hblk
    have HG := Lib.hid (hG.below ((Below.refl _ _).alloc (Nat.le_refl _) (.cells (ps.map Value.string).toArray 9)))
    have HSP := Lib.hid hsp
    have hn1 : 1 ≤ n := by omega
    have hn2 : n ≤ 2000001 := by omega
    have hmk := run_make_row' (P := Tryz.prog) 22 3 (.int .i64 0) 8 Tryz.underlying22 infoInt rfl .i64 .i64 n (by omega) (by omega)
    have h0' : (t.toList == [45]) = false := by
      rw [ByteArray.toList_eq, beq_eq_false_iff_ne]
      intro e
      exact h0 (ByteArray.ext (Array.toList_inj.1 e))
    clear hps hpl hpd hcl hpz hn hpc hpcj hpm hcell hblk hsp hm hne hG
    go_enter Tryz.func91, Tryz.ntmps91
    go_wp2_with fail
    refine HSP.out.mono ?_
    rintro e w1 ⟨rfl, hw1⟩
    obtain ⟨O, hO⟩ : ∃ O : Obj, O = .cells (ps.map Value.string).toArray 9 := ⟨_, rfl⟩
    rw [← hO] at HCELL HBLK HG hw1
    clear hO
    subst hw1
    go_wp2_with fail
    have hsz : (w.alloc O).heap.size = w.heap.size + 1 := by simp
    go_loopw [6, 7, 8, 9, 19] (fun _ _ _ _ i wr => ∃ k : Nat, k ≤ n ∧ i = .int .i64 (k : Int) ∧ wr.rowIs (w.heap.size + 1) 3 n (fun j => .int .i64 (if j < k then valOf (pc j).data.toList else 0)) ∧ (∀ j, j < k → ∃ v, Lib.atoiAll (pc j).data.toList = .ok v) ∧ Below (w.heap.size + 1) (w.alloc O) wr) (fun _ _ _ _ i _ => n - (intOf i).toNat)
    case atStart =>
      refine ⟨0, Nat.zero_le _, rfl, ?_, fun j hj => absurd hj (by omega), ?_⟩
      · have := (World.rowIs_made (w.alloc O) (.int .i64 0) n 3).congr (g := fun j => .int .i64 (if j < 0 then valOf (pc j).data.toList else 0)) (fun j _ => by simp)
        rwa [hsz] at this
      · exact (Below.refl _ _).alloc (by rw [hsz]; exact Nat.le_refl _) _
    case round =>
      obtain ⟨k, hk, rfl, hrow, hall, hb⟩ := hrel
      have HR := Lib.hid hrow
      have HB := Lib.hid hb
      have HALL := Lib.hid hall
      by_cases hlt : k < n
      · have hck : wr.cell? ⟨w.heap.size, k, none⟩ = some (.string (pc k)) := (hb.cell (p := ⟨w.heap.size, k, none⟩) (by show w.heap.size < w.heap.size + 1; omega)).trans (HCELL.out k hlt)
        have hGr : Glob wr := HG.out.below (by rw [hsz]; exact hb)
        have HGR := Lib.hid hGr
        have hqz := HZ.out k hlt
        obtain ⟨q, hq⟩ : ∃ q, q = pc k := ⟨_, rfl⟩
        rw [← hq] at hck hqz
        have hwz : w.heap.size < wr.heap.size := by have := hb.size; rw [hsz] at this; omega
        have i1 : (0 : Int) ≤ (k : Int) := by omega
        have i2 : (k : Int) < (n : Int) := by omega
        have hd := hrow.cell hlt
        have hf := hrow.frozen k
        rw [if_neg (Nat.lt_irrefl k)] at hd
        by_cases ho : ∃ v, Lib.atoiAll q.data.toList = .ok v
        · obtain ⟨v, hv⟩ := ho
          have HV := Lib.hid hv
          have HQ := Lib.hid hq
          have HAT := Lib.hid (atoi_yes q hqz v hv wr)
          clear hrow hb hall hmk hGr hq hv hd hf
          go_wp2_with fail
          refine HAT.out.mono ?_
          rintro e w2 ⟨rfl, hb2⟩
          have HR2 := rowStep HR hb2
          have hd := HR2.out.cell hlt
          have hf := HR2.out.frozen k
          rw [if_neg (Nat.lt_irrefl k)] at hd
          have HB2 : Hid (Below (w.heap.size + 1) (w.alloc O) w2) := HB.out.trans (hb2.mono (by have := HB.out.size; rw [hsz] at this; exact this))
          clear hb2
          go_wp2
          go_roundw
          case rel =>
            refine ⟨k + 1, by omega, by go_num, (HR2.out.set k _).congr (fun j hj => ?_), fun j hj => ?_, HB2.out.setCell (Nat.le_refl _) _⟩
            · by_cases e : j = k
              · subst e
                rw [if_pos rfl, if_pos (Nat.lt_succ_self _), ← HQ.out]
                unfold valOf
                rw [HV.out]
              · rw [if_neg e]
                by_cases e2 : j < k
                · rw [if_pos e2, if_pos (by omega)]
                · rw [if_neg e2, if_neg (by omega)]
            · by_cases e : j = k
              · subst e; rw [← HQ.out]; exact ⟨v, HV.out⟩
              · exact HALL.out j (by omega)
          case measure => simp [intOf]; omega
        · have hno : rl t.data.toList = none := HNO.out k hlt (fun v hv => ho ⟨v, by rw [hq]; exact hv⟩)
          have HN := Lib.hid hno
          have HL : Hid (rlL t.data.toList = []) := by show _ = _; unfold rlL; rw [hno]; rfl
          have HAT := Lib.hid (atoi_no q hqz (fun v hv => ho ⟨v, hv⟩) wr hGr)
          clear hrow hb hall hmk hGr hq ho hd hf hno
          go_wp2_with fail
          refine HAT.out.mono ?_
          rintro e w2 ⟨x, N, rfl, hb2⟩
          have HB2 : Hid (Below (w.heap.size + 1) (w.alloc O) w2) := HB.out.trans (hb2.mono (by have := HB.out.size; rw [hsz] at this; exact this))
          clear hb2
          go_wp2
          go_ret2
          rw [HN.out, HL.out]
          exact ⟨none, 0, rfl, OI.none_ _ _, ((Below.refl _ _).alloc (Nat.le_refl _) O).trans (HB2.out.mono (by omega))⟩
      · obtain rfl : k = n := by omega
        obtain ⟨vs, h1, h2, h3⟩ := HOK.out hall
        have HN := Lib.hid h1
        have HL : Hid (rlL t.data.toList = vs) := by show _ = _; unfold rlL; rw [h1]; rfl
        have HV := Lib.hid h3
        clear hrow hb hall hmk h1 h3
        go_wp2
        go_ret2
        rw [HN.out, HL.out, h2]
        refine ⟨_, _, rfl, OI.of_rowIs (by omega) HR.out (by simp only [maxLen]; omega) h2 (fun j hj => ?_), ((Below.refl _ _).alloc (Nat.le_refl _) O).trans (HB.out.mono (by omega))⟩
        rw [HV.out j hj, if_pos hj]
end Go.Proofs.YtgeeifjbfceogaaGreatDoor
