/- The text by which the laws mark a string. -/
import Derived.Test.YtnogmbhcphglkaaDoorTwa
namespace Go.Proofs.YtnogmbhcphglkaaDoor
open Go Go.RowKit

/-- the digits of a number above zero -/
def dgs (n : Nat) : List UInt8 := if n = 0 then [] else Lib.decDigits n
theorem dgs_step {n : Nat} (h : 0 < n) : dgs n = dgs (n / 10) ++ [UInt8.ofNat (48 + n % 10)] := by
  unfold dgs
  rw [if_neg (by omega)]
  by_cases h1 : n < 10
  · rw [if_pos (by omega), Lib.decDigits, dif_pos h1, List.nil_append, Nat.mod_eq_of_lt h1]
  · rw [if_neg (by omega)]
    conv => lhs; rw [Lib.decDigits, dif_neg h1]
theorem dgs_len (n : Nat) : (dgs n).length ≤ n := by
  induction n using Nat.strongRecOn with
  | _ n ih =>
    rcases Nat.eq_zero_or_pos n with rfl | h
    · exact Nat.le_refl _
    · rw [dgs_step h]
      have := ih (n / 10) (by omega)
      simp only [List.length_append, List.length_singleton]
      omega
/-- the mark's text -/
def mtx (k : Int) : List UInt8 := if k ≤ 0 then [109, 48] else 109 :: dgs k.toNat

set_option maxRecDepth 100000 in
set_option maxHeartbeats 1000000 in
theorem markText_any (k : Int) (w : World) (hk0 : 0 ≤ k) (hk : k ≤ 2000000000000) : Calls Tryd.prog 32 #[.int .i64 k] w (RetS (mtx k) w) := by
  by_cases h0 : k ≤ 0
  · have e : mtx k = [109, 48] := by unfold mtx; rw [if_pos h0]
    rw [e]
    clear e
    go_enter Tryd.func32, Tryd.ntmps32
    go_wp2
    go_ret
    exact ⟨rfl, Below.refl _ _⟩
  · obtain ⟨K, rfl⟩ : ∃ K : Nat, k = (K : Int) := ⟨k.toNat, by omega⟩
    have hM : Hid (mtx (K : Int) = 109 :: dgs K) := by show _ = _; unfold mtx; rw [if_neg h0, Int.toNat_natCast]
    go_enter Tryd.func32, Tryd.ntmps32
    go_wp2
    go_loopw [0, 3] (fun a o wr => ∃ (n : Nat) (t : List UInt8), a = .int .i64 (n : Int) ∧ o = .string (bs t) ∧ n ≤ K ∧ dgs n ++ t = dgs K ∧ Below w.heap.size w wr) (fun a _ _ => (intOf a).toNat)
    case atStart => exact ⟨K, [], rfl, rfl, Nat.le_refl _, by simp, Below.refl _ _⟩
    case round =>
      obtain ⟨n, t, rfl, rfl, hn, ht, hb⟩ := hrel
      have htl : t.length ≤ 2000000000000 := by
        have h1 := congrArg List.length ht
        have h2 := dgs_len K
        rw [List.length_append] at h1
        omega
      have HT := Lib.hid ht
      have HB := Lib.hid hb
      clear ht hb
      obtain ⟨u, hu⟩ : ∃ u, u = bs t := ⟨_, rfl⟩
      have hz : 1 + u.size ≤ 9223372036854775807 := by rw [hu, bs_size]; omega
      rw [← hu]
      have HU := Lib.hid hu
      clear hu htl
      by_cases hp : 0 < n
      · have hp' : (0 : Int) < (n : Int) := by omega
        have hq : Int.tdiv (n : Int) 10 = ((n / 10 : Nat) : Int) := by rw [Int.tdiv_eq_ediv_of_nonneg (by omega)]; omega
        have hr : Int.tmod (n : Int) 10 = ((n % 10 : Nat) : Int) := by rw [Int.tmod_eq_emod_of_nonneg (by omega)]; omega
        obtain ⟨x, hx⟩ : ∃ x : Nat, x = n % 10 := ⟨_, rfl⟩
        obtain ⟨y, hy⟩ : ∃ y : Nat, y = n / 10 := ⟨_, rfl⟩
        rw [← hx] at hr
        rw [← hy] at hq
        have x1 : x < 10 := by omega
        have hyn : y < n := by omega
        have s0 : IntKind.i64.wrap (y : Int) = (y : Int) := IntWalk.i64_in _ (by omega)
        have s3 : IntKind.i64.wrap (x : Int) = (x : Int) := IntWalk.i64_in _ (by omega)
        obtain ⟨d, hd⟩ : ∃ d : UInt8, d = UInt8.ofNat (48 + x) := ⟨_, rfl⟩
        have hcv : (convert 73 9 (.slice (some ⟨wr.heap.size, 0, none⟩) 1 1)).run Tryd.prog (wr.alloc (.cells #[.int .u8 (48 + (x : Int))] 5)) = .ok (.string ⟨#[d]⟩) (wr.alloc (.cells #[.int .u8 (48 + (x : Int))] 5)) := by
          refine run_convert_bytes_back _ 73 9 5 ⟨wr.heap.size, 0, none⟩ 1 [d] Tryd.underlying73 Tryd.underlying5 Tryd.underlying9 (fun j hj => ?_)
          obtain rfl : j = 0 := by simpa using hj
          have e : (48 + x) % 256 = 48 + x := by omega
          simp [Addr.add, hd, e]
        have HS : Hid ((⟨#[d]⟩ : ByteArray) ++ u = bs (d :: t)) := by show _ = _; rw [HU.out]; exact bs_append [d] t
        have HD : Hid (dgs y ++ (d :: t) = dgs K) := by
          show _ = _
          rw [← HT.out, dgs_step hp, hd, hx, hy, List.append_assoc]; rfl
        clear hx hy hd
        go_wp2
        go_roundw
        case rel => exact ⟨y, d :: t, rfl, by rw [HS.out], by omega, HD.out, HB.out.alloc HB.out.size _⟩
        case measure => simp [intOf]; omega
      · obtain rfl : n = 0 := by omega
        have HS : Hid ((⟨#[109]⟩ : ByteArray) ++ u = bs (109 :: dgs K)) := by show _ = _; rw [HU.out, ← HT.out]; exact bs_append [109] t
        go_wp2
        go_ret
        exact ⟨by rw [hM.out]; exact congrArg (fun b => Ending.returned (.string b)) HS.out, HB.out⟩
end Go.Proofs.YtnogmbhcphglkaaDoor
