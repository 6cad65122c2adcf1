/- Texts of numbers, of the model. -/
import Derived.Test.YtnogmbhcphglkaaDoorC1a
import Derived.Test.YtnogmbhcphglkaaDoorSt
import Derived.Test.YtnogmbhcphglkaaDoorTxt
import Derived.Laws.IdiomStrings
namespace Go.Proofs.YtnogmbhcphglkaaDoor
open Go Go.RowKit

/-- a string of these bytes -/
def bs (l : List UInt8) : ByteArray := ⟨l.toArray⟩
def str (l : List UInt8) : Value := .string (bs l)
theorem bs_append (a b : List UInt8) : bs a ++ bs b = bs (a ++ b) := by
  apply ByteArray.ext
  simp [bs, ByteArray.data_append]
def RetS (l : List UInt8) (w : World) (e : Ending) (w' : World) : Prop := e = .returned (str l) ∧ Below w.heap.size w w'
/-- a number's text -/
def numT (x : Int) : List UInt8 := Lib.decDigits x.toNat
theorem numT_small {n : Nat} (h : n < 10) : numT (n : Int) = [UInt8.ofNat (48 + n)] := by
  unfold numT
  rw [Int.toNat_natCast, Lib.decDigits, dif_pos h]

set_option maxRecDepth 100000 in
set_option maxHeartbeats 1000000 in
theorem l1Num_any (n : Nat) (w : World) (h : n < 10) : Calls Tryd.prog 33 #[.int .i64 (n : Int)] w (RetS (numT n) w) := by
  have hn := numT_small h
  obtain ⟨d, hd⟩ : ∃ d : UInt8, d = UInt8.ofNat (48 + n) := ⟨_, rfl⟩
  rw [← hd] at hn
  have HN := Lib.hid hn
  have h1 : (n : Int) < 10 := by omega
  have hcv : (convert 73 9 (.slice (some ⟨w.heap.size, 0, none⟩) 1 1)).run Tryd.prog (w.alloc (.cells #[.int .u8 (48 + (n : Int))] 5)) = .ok (.string ⟨#[d]⟩) (w.alloc (.cells #[.int .u8 (48 + (n : Int))] 5)) := by
    refine run_convert_bytes_back _ 73 9 5 ⟨w.heap.size, 0, none⟩ 1 [d] Tryd.underlying73 Tryd.underlying5 Tryd.underlying9 (fun j hj => ?_)
    obtain rfl : j = 0 := by simpa using hj
    have e : (48 + n) % 256 = 48 + n := by omega
    simp [Addr.add, hd, e]
  clear hn hd
  go_enter Tryd.func33, Tryd.ntmps33
  go_wp2
  go_ret
  exact ⟨by rw [HN.out]; rfl, (Below.refl _ _).alloc (Nat.le_refl _) _⟩

/-- the texts of the first k numbers, commas between them -/
def accT (zs : List Int) : Nat → List UInt8
  | 0 => []
  | k + 1 => (accT zs k ++ if k = 0 then [] else [44]) ++ numT (gi zs k)
def numsT (zs : List Int) : List UInt8 := if zs.length = 0 then [45] else accT zs zs.length
/-- numbers of one digit -/
def Dig (zs : List Int) : Prop := ∀ j, j < zs.length → 0 ≤ gi zs j ∧ gi zs j < 10
theorem bs_size (l : List UInt8) : (bs l).size = l.length := by simp [bs, ByteArray.size]
theorem numT_len {x : Int} (h : 0 ≤ x ∧ x < 10) : (numT x).length = 1 := by
  obtain ⟨n, rfl⟩ : ∃ n : Nat, x = (n : Int) := ⟨x.toNat, by omega⟩
  rw [numT_small (by omega)]; rfl
theorem accT_len {zs : List Int} (h : Dig zs) : ∀ k, k ≤ zs.length → (accT zs k).length ≤ 2 * k := by
  intro k
  induction k with
  | zero => intro _; simp [accT]
  | succ k ih =>
    intro hk
    have h1 := ih (by omega)
    have h2 := numT_len (h k (by omega))
    simp only [accT, List.length_append, h2]
    split
    · simp; omega
    · simp; omega
theorem numsT_len {zs : List Int} (h : Dig zs) : (numsT zs).length ≤ 2 * zs.length + 1 := by
  unfold numsT
  split
  · simp
  · have := accT_len h _ (Nat.le_refl _); omega

end Go.Proofs.YtnogmbhcphglkaaDoor
