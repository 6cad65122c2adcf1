/- Texts of numbers, of the model. The contracts of LadderText, of the program and of its model. The contracts of the program's LadderText. -/
import Derived.Test.YtgeeifjbfceogaaGreatDoorMgD
import Derived.Test.YtgeeifjbfceogaaGreatDoorMgC
import Derived.Test.YtgeeifjbfceogaaGreatDoorTxt
import Derived.Laws.IdiomStrings
import Derived.Deep.RegionHeld3
namespace Go.Proofs.YtgeeifjbfceogaaGreatDoor
open Go Go.RowKit

/-- a string of these bytes -/
def bs (l : List UInt8) : ByteArray := ⟨l.toArray⟩
def str (l : List UInt8) : Value := .string (bs l)
theorem bs_append (a b : List UInt8) : bs a ++ bs b = bs (a ++ b) := by
  apply ByteArray.ext
  simp [bs, ByteArray.data_append]
def RetS (l : List UInt8) (w : World) (e : Ending) (w' : World) : Prop := e = .returned (str l) ∧ Below w.heap.size w w'
/-- a number's text -/
def numT (x : Int) : List UInt8 := Lib.decDigits x.toNat
theorem numT_small {n : Nat} (h : n < 10) : numT (n : Int) = [UInt8.ofNat (48 + n)] := by
  unfold numT
  rw [Int.toNat_natCast, Lib.decDigits, dif_pos h]

/-- the texts of the first k numbers, commas between them -/
def accT (zs : List Int) : Nat → List UInt8
  | 0 => []
  | k + 1 => (accT zs k ++ if k = 0 then [] else [44]) ++ numT (gi zs k)
def numsT (zs : List Int) : List UInt8 := if zs.length = 0 then [45] else accT zs zs.length
/-- numbers of one digit -/
def Dig (zs : List Int) : Prop := ∀ j, j < zs.length → 0 ≤ gi zs j ∧ gi zs j < 10
theorem bs_size (l : List UInt8) : (bs l).size = l.length := by simp [bs, ByteArray.size]
theorem numT_len {x : Int} (h : 0 ≤ x ∧ x < 10) : (numT x).length = 1 := by
  obtain ⟨n, rfl⟩ : ∃ n : Nat, x = (n : Int) := ⟨x.toNat, by omega⟩
  rw [numT_small (by omega)]; rfl
theorem accT_len {zs : List Int} (h : Dig zs) : ∀ k, k ≤ zs.length → (accT zs k).length ≤ 2 * k := by
  intro k
  induction k with
  | zero => intro _; simp [accT]
  | succ k ih =>
    intro hk
    have h1 := ih (by omega)
    have h2 := numT_len (h k (by omega))
    simp only [accT, List.length_append, h2]
    split
    · simp; omega
    · simp; omega
theorem numsT_len {zs : List Int} (h : Dig zs) : (numsT zs).length ≤ 2 * zs.length + 1 := by
  unfold numsT
  split
  · simp
  · have := accT_len h _ (Nat.le_refl _); omega

end Go.Proofs.YtgeeifjbfceogaaGreatDoor
namespace Go.Proofs.YtgeeifjbfceogaaGreatDoor
open Go Go.RowKit

theorem inter_snoc {α : Type} (sep : List α) : ∀ (xs : List (List α)) (y : List α), xs ≠ [] → sep.intercalate (xs ++ [y]) = sep.intercalate xs ++ sep ++ y
  | [], y, h => absurd rfl h
  | [a], y, _ => by simp [List.intercalate, List.intersperse]
  | a :: b :: r, y, _ => by
    have ih := inter_snoc sep (b :: r) y (by simp)
    have e1 : sep.intercalate (a :: b :: r ++ [y]) = a ++ sep ++ sep.intercalate (b :: r ++ [y]) := by simp [List.intercalate, List.intersperse]
    have e2 : sep.intercalate (a :: b :: r) = a ++ sep ++ sep.intercalate (b :: r) := by simp [List.intercalate, List.intersperse]
    rw [e1, e2, ih]
    simp [List.append_assoc]
theorem join_acc (zs : List Int) : ∀ k, k < zs.length → Lib.join ((zs.take (k + 1)).map numT) [44] = accT zs (k + 1) := by
  intro k
  induction k with
  | zero =>
    intro h
    rw [List.take_succ_eq_append_getElem h]
    simp [Lib.join_one, accT, gi_lt h]
  | succ k ih =>
    intro h
    rw [List.take_succ_eq_append_getElem h, List.map_append, List.map_cons, List.map_nil]
    have e := ih (by omega)
    unfold Lib.join at e ⊢
    rw [inter_snoc _ _ _ (by intro h2; have h3 := congrArg List.length h2; rw [List.length_map, List.length_take, List.length_nil, Nat.min_def] at h3; split at h3 <;> omega), e]
    show _ = (accT zs (k + 1) ++ if k + 1 = 0 then [] else [44]) ++ numT (gi zs (k + 1))
    rw [if_neg (by omega), gi_lt h]
theorem join_nums {zs : List Int} (h : 0 < zs.length) : Lib.join (zs.map numT) [44] = numsT zs := by
  obtain ⟨k, hk⟩ : ∃ k, zs.length = k + 1 := ⟨zs.length - 1, by omega⟩
  have := join_acc zs k (by omega)
  rw [← hk, List.take_length] at this
  rw [this]
  unfold numsT
  rw [if_neg (by omega)]
theorem lad_dig {W : Int} {zs : List Int} (h : lad W zs = true) : Dig zs := by
  intro j hj
  have h1 := lad_iff.1 h
  have h2 := h1.2.2
  unfold allIn at h2
  rw [List.all_eq_true] at h2
  have h3 := inB_iff.1 (h2 (gi zs j) (by rw [gi_lt hj]; exact List.getElem_mem hj))
  omega

def textT (W : Int) (zs : List Int) : List UInt8 := (numT W ++ [58]) ++ numsT zs
def textN (W : Int) (zs : List Int) : List UInt8 := if lad W zs = true then textT W zs else []
def RetSB (l : List UInt8) (b : Bool) (w : World) (e : Ending) (w' : World) : Prop := e = .returned (.tuple #[str l, .bool b]) ∧ Below w.heap.size w w'

end Go.Proofs.YtgeeifjbfceogaaGreatDoor
namespace Go.Proofs.YtgeeifjbfceogaaGreatDoor
open Go Go.RowKit

theorem infoStr : (Tryz.prog.info? 9).map (fun i => (i.zero, i.size, i.bytes)) = some (some (.string ⟨#[]⟩), 1, 16) := by kernel_rfl

set_option maxRecDepth 100000 in
set_option maxHeartbeats 2000000 in
theorem joined_none (A : Option Addr) (c : Nat) (s : ByteArray) (w : World) : Calls Tryz.prog 90 #[.slice A 0 c, .string s] w (RetS [45] w) := by
  go_enter Tryz.func90, Tryz.ntmps90
  go_wp2
  go_ret
  exact ⟨rfl, Below.refl _ _⟩

set_option maxRecDepth 100000 in
set_option maxHeartbeats 2000000 in
theorem joined_some (A : Option Addr) (n c : Nat) (s : ByteArray) (l : List UInt8) (w : World) (h0 : n ≠ 0) (_hn : n ≤ 1000)
    (H : Calls Tryz.prog 103 #[.slice A n c, .string s] w fun e w' => e = .returned (str l) ∧ Below w.heap.size w w') :
    Calls Tryz.prog 90 #[.slice A n c, .string s] w fun e w' => e = .returned (str l) ∧ Below w.heap.size w w' := by
  have i0 : ((n : Int) == 0) = false := by simp; omega
  have HH := Lib.hid H
  obtain ⟨t, ht⟩ : ∃ t, t = str l := ⟨_, rfl⟩
  rw [← ht] at HH ⊢
  clear H h0 ht
  go_enter Tryz.func90, Tryz.ntmps90
  go_wp2_with fail
  refine HH.out.mono ?_
  rintro e w2 ⟨rfl, hb⟩
  go_wp2
  go_ret
  exact ⟨rfl, hb⟩

set_option maxRecDepth 100000 in
set_option maxHeartbeats 2000000 in
theorem listText_any (A : Option Addr) (n c : Nat) (zs : List Int) (w : World) (h : RI w A n zs) (hn : n ≤ 1000) (hd : Dig zs) : Calls Tryz.prog 69 #[.slice A n c] w (RetS (numsT zs) w) := by
  have hl := h.1
  have HNL := Lib.hid (numsT_len hd)
  have HJ0 : Hid (n ≠ 0 → Lib.join (zs.map numT) [44] = numsT zs) := fun h0 => join_nums (zs := zs) (by omega)
  have HA := Lib.hid h
  have HD := Lib.hid hd
  have hmk := run_make_row' (P := Tryz.prog) 97 9 (.string ⟨#[]⟩) 16 Tryz.underlying97 infoStr rfl .i64 .i64 n (by omega) (by omega)
  clear h hd
  go_enter Tryz.func69, Tryz.ntmps69
  go_wp2
  go_loopw [4, 5, 11] (fun _ _ i wr => ∃ k : Nat, k ≤ n ∧ i = .int .i64 (k : Int) ∧ wr.rowIs w.heap.size 9 n (fun j => .string (if j < k then bs (numT (gi zs j)) else ⟨#[]⟩)) ∧ Below w.heap.size w wr) (fun _ _ i _ => n - (intOf i).toNat)
  case atStart => exact ⟨0, Nat.zero_le _, rfl, (World.rowIs_made w (.string ⟨#[]⟩) n 9).congr (fun j _ => by simp), (Below.refl _ _).alloc (Nat.le_refl _) _⟩
  case round =>
    obtain ⟨k, hk, rfl, hrow, hb⟩ := hrel
    have HR := Lib.hid hrow
    have HB := Lib.hid hb
    by_cases hlt : k < n
    · obtain ⟨b, off, rfl, hbw, hc⟩ := HA.out.cell hlt
      have hck : wr.cell? ⟨b, off + k, none⟩ = some (.int .i64 (gi zs k)) := (hb.cell (p := ⟨b, off + k, none⟩) hbw).trans (hc k hlt)
      have hdk := HD.out k (by omega)
      obtain ⟨x, hx⟩ : ∃ x : Nat, gi zs k = (x : Int) := ⟨(gi zs k).toNat, by omega⟩
      have hx10 : x < 10 := by omega
      obtain ⟨u, hu⟩ : ∃ u, u = bs (numT (gi zs k)) := ⟨_, rfl⟩
      have HU := Lib.hid hu
      have HI : Hid (Calls Tryz.prog 89 #[.int .i64 (x : Int)] wr fun e w' => e = .returned (.string u) ∧ w' = wr) := by
        show Calls _ _ _ _ _
        rw [hu, hx]
        exact strconv_Itoa_small x (by omega) wr
      have hd := hrow.cell hlt
      have hf := hrow.frozen k
      rw [if_neg (Nat.lt_irrefl k)] at hd
      rw [hx] at hck
      clear hrow hb hc hmk hdk hx hu
      go_wp2_with fail
      refine HI.out.mono ?_
      rintro e w' ⟨rfl, hw⟩
      obtain rfl : wr = w' := hw.symm
      go_wp2
      go_roundw
      case rel =>
        refine ⟨k + 1, by omega, by go_num, (HR.out.set k _).congr (fun j hj => ?_), HB.out.setCell (by simp) _⟩
        by_cases e : j = k
        · subst e
          simp [HU.out]
        · by_cases e2 : j < k
          · simp [e, e2, show j < k + 1 by omega]
          · simp [e, e2, show ¬ j < k + 1 by omega]
      case measure => simp [intOf]; omega
    · obtain rfl : k = n := by omega
      by_cases h0 : k = 0
      · subst h0
        have HN : Hid (numsT zs = [45]) := by show _ = _; unfold numsT; rw [if_pos hl]
        clear hrow hb hmk
        go_wp2_with fail
        refine (joined_none _ _ _ wr).mono ?_
        unfold RetS str
        rintro e w2 ⟨rfl, hb2⟩
        replace HB := belStep HB hb2
        clear hb2
        go_wp2
        go_ret
        exact ⟨by rw [HN.out]; rfl, HB.out⟩
      have HJ := Lib.hid (HJ0.out h0)
      have HJC : Hid (Calls Tryz.prog 103 #[.slice (some ⟨w.heap.size, 0, none⟩) k k, .string ⟨#[44]⟩] wr fun e w' => e = .returned (str (numsT zs)) ∧ Below wr.heap.size wr w') := by
        show Calls _ _ _ _ _
        have hml : ((zs.map fun x => bs (numT x)).map (·.data.toList)) = zs.map numT := by
          rw [List.map_map]
          exact List.map_congr_left fun x _ => by simp [bs]
        have hlen : (zs.map fun x => bs (numT x)).length = k := by rw [List.length_map, hl]
        have hj := strings_Join w.heap.size 0 k (zs.map fun x => bs (numT x)) ⟨#[44]⟩ wr (fun j v hj => by
          have hjl : j < k := by have := (List.getElem?_eq_some_iff.1 hj).1; rw [hlen] at this; exact this
          rw [Nat.zero_add, HR.out.cell hjl, if_pos hjl]
          rw [List.getElem?_map, List.getElem?_eq_getElem (by omega)] at hj
          injection hj with hj
          rw [← hj, gi_lt (by omega)]) (by
            obtain ⟨cs, hh, _⟩ := HR.out
            exact (Array.getElem?_eq_some_iff.1 hh).1) (by rw [hlen]; omega) (by rw [hlen]; exact Nat.le_refl _) (by
            rw [hml]
            have e : (⟨#[44]⟩ : ByteArray).data.toList = [44] := rfl
            rw [e, HJ.out]
            have := HNL.out
            omega)
        rw [hlen, hml] at hj
        have e : (⟨#[44]⟩ : ByteArray).data.toList = [44] := rfl
        rw [e, HJ.out] at hj
        exact hj
      clear hrow hb hmk
      go_wp2_with fail
      refine (joined_some _ _ _ _ _ wr h0 (by omega) HJC.out).mono ?_
      unfold str
      rintro e w2 ⟨rfl, hb2⟩
      replace HB := belStep HB hb2
      clear hb2
      obtain ⟨t, ht⟩ : ∃ t, t = bs (numsT zs) := ⟨_, rfl⟩
      rw [← ht]
      have HT := Lib.hid ht
      clear ht
      go_wp2
      go_ret
      exact ⟨by unfold str; rw [← HT.out]; rfl, HB.out⟩

end Go.Proofs.YtgeeifjbfceogaaGreatDoor
