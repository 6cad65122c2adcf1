/- The sum over all lengths: the program's and the model's CountAllLeast. -/
import Derived.Test.YtgeeifjbfceogaaGreatDoorCb6
namespace Go.Proofs.YtgeeifjbfceogaaGreatDoor
open Go Go.RowKit

def sumT (zs : List Int) (k : Nat) : Int := (zs.take k).sum
theorem sumT_succ {zs : List Int} {k : Nat} (h : k < zs.length) : sumT zs (k + 1) = sumT zs k + gi zs k := by
  unfold sumT
  rw [List.take_add_one, List.getElem?_eq_getElem h]
  have e : gi zs k = zs[k] := by simp [gi, List.getD, h]
  rw [e]
  simp only [Option.toList_some, List.sum_append, List.sum_cons, List.sum_nil]
  omega
def caN (x : Int) : Int := sumT (cbL x) (cbL x).length
theorem cbL_small (x : Int) (k : Nat) (h : k < (cbL x).length) : 0 ≤ gi (cbL x) k ∧ gi (cbL x) k ≤ 30517578125 := by
  rcases hq : cbQ x with _ | _
  · rw [cbL_no hq] at h; simp at h
  · have h1 := cbQ_iff.1 hq
    rw [cbL_yes hq] at h ⊢
    have hl : k < ninv (topO x.toNat) + 1 := by simpa [begs] using h
    rw [gi_begs hl]
    have h4 := np_small k (zs := topO x.toNat) (by rw [(topO_ok (n := x.toNat) (by omega) (by omega)).2]; omega)
    omega
theorem sumT_small (x : Int) : ∀ k, k ≤ (cbL x).length → 0 ≤ sumT (cbL x) k ∧ sumT (cbL x) k ≤ 30517578125 * (k : Int)
  | 0, _ => by simp [sumT]
  | k + 1, h => by
    have h1 := sumT_small x k (by omega)
    have h2 := cbL_small x k (by omega)
    rw [sumT_succ (by omega)]
    push_cast
    omega

set_option maxRecDepth 100000 in
set_option maxHeartbeats 2000000 in
theorem iCountAllLeast_any (x : Int) (w : World) (lo : -9223372036854775808 ≤ x) (hi : x ≤ 9223372036854775807) (hGl : Glob w) :
    Calls Tryz.prog 24 #[.int .i64 x] w (RetIB (caN x) (cbQ x) w) := by
  have HC := Lib.hid (iCountByLength_any x w lo hi hGl)
  have HSM := Lib.hid (sumT_small x)
  have HGS := Lib.hid (cbL_small x)
  have hlen := cbL_len x
  have HCA : Hid (caN x = sumT (cbL x) (cbL x).length) := Lib.hid rfl
  obtain ⟨L, hL⟩ : ∃ L, L = cbL x := ⟨_, rfl⟩
  obtain ⟨r, hr⟩ : ∃ r, r = caN x := ⟨_, rfl⟩
  obtain ⟨q, hq⟩ : ∃ q, q = cbQ x := ⟨_, rfl⟩
  rw [← hL, ← hr] at HCA
  rw [← hL] at HSM HGS hlen
  rw [← hL, ← hq] at HC
  rw [← hr, ← hq]
  clear hL hr hq
  go_enter Tryz.func24, Tryz.ntmps24
  go_wp2_with fail
  refine HC.out.mono ?_
  rintro e w1 ⟨A1, c1, rfl, o1, hb⟩
  have HO := Lib.hid o1.ri
  have HB := belStep (belRefl (w := w)) hb
  clear o1 hb HC
  go_wp2
  go_loop [6, 8, 16] (fun s6 _ i => ∃ k : Nat, k ≤ L.length ∧ i = .int .i64 (k : Int) ∧ s6 = .int .i64 (sumT L k)) (fun _ _ i => L.length - (intOf i).toNat)
  case atStart => exact ⟨0, Nat.zero_le _, rfl, rfl⟩
  case round =>
    obtain ⟨k, hk, rfl, rfl⟩ := hrel
    have h1 := HSM.out k hk
    by_cases hlt : k < L.length
    · obtain ⟨b, off, rfl, hbw, hc⟩ := HO.out.cell hlt
      have hck := hc k hlt
      have h2 := HGS.out k hlt
      have HS := Lib.hid (sumT_succ (zs := L) hlt)
      obtain ⟨u, hu⟩ : ∃ u, u = sumT L k := ⟨_, rfl⟩
      obtain ⟨v, hv⟩ : ∃ v, v = gi L k := ⟨_, rfl⟩
      rw [← hu] at h1 HS ⊢
      rw [← hv] at h2 hck HS
      have h3 : u ≤ 1000000000000 := by omega
      clear hc hu hv
      go_wp2
      go_round
      case rel => exact ⟨k + 1, by omega, by go_num, by rw [HS.out]⟩
      case measure => simp [intOf]; omega
    · obtain rfl : k = L.length := by omega
      rw [← HCA.out] at h1 ⊢
      go_wp2
      go_ret2
      exact ⟨rfl, HB.out⟩

set_option maxRecDepth 100000 in
set_option maxHeartbeats 2000000 in
theorem sCountAllLeast_any (x : Int) (w : World) (lo : -9223372036854775808 ≤ x) (hi : x ≤ 9223372036854775807) :
    Calls Tryz.prog 23 #[.int .i64 x] w (RetIB (caN x) (cbQ x) w) := by
  have HC := Lib.hid (sCountByLength_any x w lo hi)
  have HSM := Lib.hid (sumT_small x)
  have HGS := Lib.hid (cbL_small x)
  have hlen := cbL_len x
  have HCA : Hid (caN x = sumT (cbL x) (cbL x).length) := Lib.hid rfl
  obtain ⟨L, hL⟩ : ∃ L, L = cbL x := ⟨_, rfl⟩
  obtain ⟨r, hr⟩ : ∃ r, r = caN x := ⟨_, rfl⟩
  obtain ⟨q, hq⟩ : ∃ q, q = cbQ x := ⟨_, rfl⟩
  rw [← hL, ← hr] at HCA
  rw [← hL] at HSM HGS hlen
  rw [← hL, ← hq] at HC
  rw [← hr, ← hq]
  clear hL hr hq
  go_enter Tryz.func23, Tryz.ntmps23
  go_wp2_with fail
  refine HC.out.mono ?_
  rintro e w1 ⟨A1, c1, rfl, o1, hb⟩
  have HO := Lib.hid o1.ri
  have HB := belStep (belRefl (w := w)) hb
  clear o1 hb HC
  go_wp2
  go_loop [6, 8, 16] (fun s6 _ i => ∃ k : Nat, k ≤ L.length ∧ i = .int .i64 (k : Int) ∧ s6 = .int .i64 (sumT L k)) (fun _ _ i => L.length - (intOf i).toNat)
  case atStart => exact ⟨0, Nat.zero_le _, rfl, rfl⟩
  case round =>
    obtain ⟨k, hk, rfl, rfl⟩ := hrel
    have h1 := HSM.out k hk
    by_cases hlt : k < L.length
    · obtain ⟨b, off, rfl, hbw, hc⟩ := HO.out.cell hlt
      have hck := hc k hlt
      have h2 := HGS.out k hlt
      have HS := Lib.hid (sumT_succ (zs := L) hlt)
      obtain ⟨u, hu⟩ : ∃ u, u = sumT L k := ⟨_, rfl⟩
      obtain ⟨v, hv⟩ : ∃ v, v = gi L k := ⟨_, rfl⟩
      rw [← hu] at h1 HS ⊢
      rw [← hv] at h2 hck HS
      have h3 : u ≤ 1000000000000 := by omega
      clear hc hu hv
      go_wp2
      go_round
      case rel => exact ⟨k + 1, by omega, by go_num, by rw [HS.out]⟩
      case measure => simp [intOf]; omega
    · obtain rfl : k = L.length := by omega
      rw [← HCA.out] at h1 ⊢
      go_wp2
      go_ret2
      exact ⟨rfl, HB.out⟩
end Go.Proofs.YtgeeifjbfceogaaGreatDoor
