/- Texts of numbers, of the model. -/
import Derived.Test.YtdafkihbcdclgaaDoorC1a
import Derived.Test.YtdafkihbcdclgaaDoorSt
import Derived.Test.YtdafkihbcdclgaaDoorTxt
import Derived.Laws.IdiomStrings
namespace Go.Proofs.YtdafkihbcdclgaaDoor
open Go Go.RowKit

/-- a string of these bytes -/
def bs (l : List UInt8) : ByteArray := ⟨l.toArray⟩
def str (l : List UInt8) : Value := .string (bs l)
theorem bs_append (a b : List UInt8) : bs a ++ bs b = bs (a ++ b) := by
  apply ByteArray.ext
  simp [bs, ByteArray.data_append]
def RetS (l : List UInt8) (w : World) (e : Ending) (w' : World) : Prop := e = .returned (str l) ∧ Below w.heap.size w w'
/-- a number's text -/
def numT (x : Int) : List UInt8 := Lib.decDigits x.toNat
theorem numT_small {n : Nat} (h : n < 10) : numT (n : Int) = [UInt8.ofNat (48 + n)] := by
  unfold numT
  rw [Int.toNat_natCast, Lib.decDigits, dif_pos h]

set_option maxRecDepth 100000 in
set_option maxHeartbeats 1000000 in
theorem l1Num_any (n : Nat) (w : World) (h : n < 10) : Calls Tryd.prog 30 #[.int .i64 (n : Int)] w (RetS (numT n) w) := by
  have hn := numT_small h
  obtain ⟨d, hd⟩ : ∃ d : UInt8, d = UInt8.ofNat (48 + n) := ⟨_, rfl⟩
  rw [← hd] at hn
  have HN := Lib.hid hn
  have h1 : (n : Int) < 10 := by omega
  have hcv : (convert 57 9 (.slice (some ⟨w.heap.size, 0, none⟩) 1 1)).run Tryd.prog (w.alloc (.cells #[.int .u8 (48 + (n : Int))] 5)) = .ok (.string ⟨#[d]⟩) (w.alloc (.cells #[.int .u8 (48 + (n : Int))] 5)) := by
    refine run_convert_bytes_back _ 57 9 5 ⟨w.heap.size, 0, none⟩ 1 [d] Tryd.underlying57 Tryd.underlying5 Tryd.underlying9 (fun j hj => ?_)
    obtain rfl : j = 0 := by simpa using hj
    have e : (48 + n) % 256 = 48 + n := by omega
    simp [Addr.add, hd, e]
  clear hn hd
  go_enter Tryd.func30, Tryd.ntmps30
  go_wp2
  go_ret
  exact ⟨by rw [HN.out]; rfl, (Below.refl _ _).alloc (Nat.le_refl _) _⟩

/-- the texts of the first k numbers, commas between them -/
def accT (zs : List Int) : Nat → List UInt8
  | 0 => []
  | k + 1 => (accT zs k ++ if k = 0 then [] else [44]) ++ numT (gi zs k)
def numsT (zs : List Int) : List UInt8 := if zs.length = 0 then [45] else accT zs zs.length
/-- numbers of one digit -/
def Dig (zs : List Int) : Prop := ∀ j, j < zs.length → 0 ≤ gi zs j ∧ gi zs j < 10
theorem bs_size (l : List UInt8) : (bs l).size = l.length := by simp [bs, ByteArray.size]
theorem numT_len {x : Int} (h : 0 ≤ x ∧ x < 10) : (numT x).length = 1 := by
  obtain ⟨n, rfl⟩ : ∃ n : Nat, x = (n : Int) := ⟨x.toNat, by omega⟩
  rw [numT_small (by omega)]; rfl
theorem accT_len {zs : List Int} (h : Dig zs) : ∀ k, k ≤ zs.length → (accT zs k).length ≤ 2 * k := by
  intro k
  induction k with
  | zero => intro _; simp [accT]
  | succ k ih =>
    intro hk
    have h1 := ih (by omega)
    have h2 := numT_len (h k (by omega))
    simp only [accT, List.length_append, h2]
    split
    · simp; omega
    · simp; omega
theorem numsT_len {zs : List Int} (h : Dig zs) : (numsT zs).length ≤ 2 * zs.length + 1 := by
  unfold numsT
  split
  · simp
  · have := accT_len h _ (Nat.le_refl _); omega

set_option maxRecDepth 100000 in
set_option maxHeartbeats 1000000 in
theorem laNumbers_any (A : Option Addr) (n c : Nat) (zs : List Int) (w : World) (h : RI w A n zs) (hn : n ≤ 1000) (hd : Dig zs) : Calls Tryd.prog 31 #[.slice A n c] w (RetS (numsT zs) w) := by
  have hl := h.1
  by_cases h0 : n = 0
  · subst h0
    have HN : Hid (numsT zs = [45]) := by show _ = _; unfold numsT; rw [if_pos hl]
    clear h hd hl
    go_enter Tryd.func31, Tryd.ntmps31
    go_wp2
    go_ret
    exact ⟨by rw [HN.out]; rfl, Below.refl _ _⟩
  have HN : Hid (numsT zs = accT zs n) := by show _ = _; unfold numsT; rw [if_neg (by omega), hl]
  have HA := Lib.hid h
  have HD := Lib.hid hd
  have i0 : ((n : Int) == 0) = false := by simp; omega
  clear h hd
  go_enter Tryd.func31, Tryd.ntmps31
  go_wp2
  go_loopw [3, 4, 5, 11] (fun s _ _ i wr => ∃ k : Nat, k ≤ n ∧ i = .int .i64 (k : Int) ∧ s = .string (bs (accT zs k)) ∧ Below w.heap.size w wr) (fun _ _ _ i _ => n - (intOf i).toNat)
  case atStart => exact ⟨0, Nat.zero_le _, rfl, rfl, Below.refl _ _⟩
  case round =>
    obtain ⟨k, hk, rfl, rfl, hb⟩ := hrel
    have HB := Lib.hid hb
    by_cases hlt : k < n
    · obtain ⟨b, off, rfl, hbw, hc⟩ := HA.out.cell hlt
      have hck : wr.cell? ⟨b, off + k, none⟩ = some (.int .i64 (gi zs k)) := (hb.cell (p := ⟨b, off + k, none⟩) hbw).trans (hc k hlt)
      have hdk := HD.out k (by omega)
      obtain ⟨x, hx⟩ : ∃ x : Nat, gi zs k = (x : Int) := ⟨(gi zs k).toNat, by omega⟩
      have hx10 : x < 10 := by omega
      obtain ⟨t, ht⟩ : ∃ t, t = bs (accT zs k) := ⟨_, rfl⟩
      obtain ⟨u, hu⟩ : ∃ u, u = bs (numT (x : Int)) := ⟨_, rfl⟩
      have HS : Hid (bs (accT zs (k + 1)) = (if k = 0 then t else t ++ ⟨#[44]⟩) ++ u) := by
        show _ = _
        rw [ht, hu, ← hx]
        simp only [accT]
        rw [← bs_append]
        split
        · rw [List.append_nil]
        · rw [← bs_append]; rfl
      have HNX : Hid (Calls Tryd.prog 30 #[.int .i64 (x : Int)] wr fun e w' => e = .returned (.string u) ∧ Below wr.heap.size wr w') := by
        show Calls _ _ _ _ _
        rw [hu]
        exact l1Num_any x wr hx10
      have hz0 : t.size + u.size + 1 ≤ 3000 := by
        rw [ht, hu, bs_size, bs_size, numT_len (by omega)]
        have := accT_len HD.out k (by omega)
        omega
      have hz1 : t.size + 1 ≤ 9223372036854775807 := by omega
      have hz2 : t.size + 1 + u.size ≤ 9223372036854775807 := by omega
      have hz3 : t.size + u.size ≤ 9223372036854775807 := by omega
      rw [← ht]
      rw [hx] at hck
      have hzr := Nat.lt_of_lt_of_le hbw hb.size
      clear hb hc ht hu hx hdk
      by_cases hk0 : k = 0
      · rw [if_pos hk0] at HS
        have i1 : ¬ ((0 : Int) < (k : Int)) := by omega
        clear hk0
        go_wp2_with fail
        refine HNX.out.mono ?_
        rintro e w2 ⟨rfl, hb2⟩
        replace HB := belStep HB hb2
        clear hb2
        go_wp2
        go_roundw
        case rel => exact ⟨k + 1, by omega, by go_num, by rw [HS.out], HB.out⟩
        case measure => simp [intOf]; omega
      · rw [if_neg hk0] at HS
        have i1 : (0 : Int) < (k : Int) := by omega
        go_wp2_with fail
        refine HNX.out.mono ?_
        rintro e w2 ⟨rfl, hb2⟩
        replace HB := belStep HB hb2
        clear hb2
        go_wp2
        go_roundw
        case rel => exact ⟨k + 1, by omega, by go_num, by rw [HS.out], HB.out⟩
        case measure => simp [intOf]; omega
    · obtain rfl : k = n := by omega
      clear hb
      go_wp2
      go_ret
      exact ⟨by rw [HN.out]; rfl, HB.out⟩
end Go.Proofs.YtdafkihbcdclgaaDoor
