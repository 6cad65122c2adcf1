/- What the law FnLongestCounted goes through: big, nSame, nSum. -/
import Derived.Test.YtgeeifjbfceogaaGreatDoorBase3
import Derived.Test.YtgeeifjbfceogaaGreatDoorMgC
import Derived.Deep.QuietTactic
import Derived.BigQuiet
import Derived.IntWalk
namespace Go.Proofs.YtgeeifjbfceogaaGreatDoor
open Go Go.RowKit

/-- may the two inputs be looked at -/
def bigB (n m : Nat) : Bool := decide (1048576 < n) || decide (1048576 - (n : Int) < m)
set_option maxHeartbeats 400000 in
theorem big_any (A : Option Addr) (n c : Nat) (B : Option Addr) (m d : Nat) (w : World) (hn : n ≤ 9223372036854775807) (_hm : m ≤ 9223372036854775807) :
    Calls Tryz.prog 37 #[.slice A n c, .slice B m d] w (RetB (bigB n m) w) := by
  by_cases h1 : (1048576 : Int) < n
  · have E : Hid (bigB n m = true) := by show bigB n m = true; unfold bigB; rw [decide_eq_true (by omega)]; rfl
    go_enter Tryz.func37, Tryz.ntmps37
    go_wp2
    go_ret
    exact ⟨ret_b E.out.symm, Below.refl _ _⟩
  · have E : Hid (bigB n m = decide (1048576 - (n : Int) < m)) := by show bigB n m = _; unfold bigB; rw [decide_eq_false (by omega)]; rfl
    go_enter Tryz.func37, Tryz.ntmps37
    go_wp2
    all_goals
      go_ret
      exact ⟨ret_b (by rw [E.out]), Below.refl _ _⟩

set_option maxHeartbeats 400000 in
theorem nSame_any (A : Option Addr) (n c : Nat) (zs : List Int) (B : Option Addr) (m d : Nat) (ys : List Int) (w : World) (h : RI w A n zs) (g : RI w B m ys) (hn : n ≤ 1048576) (hm : m ≤ 1048576) :
    Calls Tryz.prog 41 #[.slice A n c, .slice B m d] w (RetB (eqB zs ys) w) := by
  have hz := h.1; have hy := g.1
  by_cases hnm : n = m
  · subst hnm
    go_enter Tryz.func41, Tryz.ntmps41
    go_wp2
    go_loopw [13] (fun i wr => ∃ k : Nat, k ≤ n ∧ i = .int .i64 k ∧ (∀ j, j < k → gi zs j = gi ys j) ∧ Below w.heap.size w wr) (fun i _ => n - (intOf i).toNat)
    case atStart => exact ⟨0, Nat.zero_le _, rfl, fun j hj => absurd hj (by omega), Below.refl _ _⟩
    case round =>
      obtain ⟨k, hk, rfl, hall, hb⟩ := hrel
      have H3 := Lib.hid hall
      have H2 := Lib.hid hb
      clear hall
      by_cases hlt : k < n
      · obtain ⟨b, off, rfl, hbw, hc⟩ := h.cell hlt
        obtain ⟨b2, off2, rfl, hbw2, hc2⟩ := g.cell hlt
        have hck : wr.cell? ⟨b, off + k, none⟩ = some (.int .i64 (gi zs k)) := (hb.cell (p := ⟨b, off + k, none⟩) hbw).trans (hc k hlt)
        have hck2 : wr.cell? ⟨b2, off2 + k, none⟩ = some (.int .i64 (gi ys k)) := (hb.cell (p := ⟨b2, off2 + k, none⟩) hbw2).trans (hc2 k hlt)
        clear hc hc2 hb
        by_cases he : gi zs k = gi ys k
        · have hne : (gi zs k != gi ys k) = false := by simp [he]
          have HE := Lib.hid he
          clear he
          go_wp2
          go_quiet (fail)
          go_wp2
          exact ⟨⟨k + 1, by omega, by go_num, fun j hj => by
            by_cases e : j = k
            · rw [e]; exact HE.out
            · exact H3.out j (by omega), by first | exact H2.out | exact below_drewN H2.out _⟩, by simp [intOf] <;> omega⟩
        · have hne : (gi zs k != gi ys k) = true := by simp [he]
          have E : Hid (eqB zs ys = false) := by show eqB zs ys = false; unfold eqB; exact decide_eq_false (fun e => he (by rw [e]))
          clear he
          go_wp2
          go_quiet (fail)
          go_wp2
          go_ret
          exact ⟨ret_b E.out.symm, by first | exact H2.out | exact below_drewN H2.out _⟩
      · obtain rfl : k = n := by omega
        have E : Hid (eqB zs ys = true) := by show eqB zs ys = true; unfold eqB; exact decide_eq_true (gi_ext (by omega) (fun j hj => H3.out j (by omega)))
        clear hb
        go_wp2
        go_ret
        exact ⟨ret_b E.out.symm, H2.out⟩
  · have hne : ((n : Int) != (m : Int)) = true := by simp; omega
    have E : Hid (eqB zs ys = false) := by show eqB zs ys = false; unfold eqB; exact decide_eq_false (fun e => hnm (by rw [← hz, ← hy, e]))
    go_enter Tryz.func41, Tryz.ntmps41
    go_wp2
    go_ret
    exact ⟨ret_b E.out.symm, Below.refl _ _⟩

theorem sum_take (zs : List Int) {k : Nat} (hk : k < zs.length) : (zs.take (k + 1)).sum = (zs.take k).sum + gi zs k := by
  rw [show zs.take (k + 1) = zs.take k ++ [zs[k]] by rw [List.take_append_getElem], List.sum_append, gi_lt hk]
  simp

theorem sum_leN (zs : List Int) (h : ∀ x ∈ zs, 0 ≤ x ∧ x ≤ 100000000000) : 0 ≤ zs.sum ∧ zs.sum ≤ 100000000000 * zs.length := by
  induction zs with
  | nil => simp
  | cons z zs ih =>
    have h1 := h z (by simp)
    have h2 := ih (fun x hx => h x (by simp [hx]))
    simp only [List.sum_cons, List.length_cons]
    omega

set_option maxHeartbeats 400000 in
theorem nSum_any (A : Option Addr) (n c : Nat) (zs : List Int) (w : World) (h : RI w A n zs) (hn : n ≤ 1000) (hx : ∀ x ∈ zs, 0 ≤ x ∧ x ≤ 100000000000) :
    Calls Tryz.prog 42 #[.slice A n c] w (RetI zs.sum w) := by
  have hz := h.1
  have HX := Lib.hid hx
  clear hx
  go_enter Tryz.func42, Tryz.ntmps42
  go_wp2
  go_loopw [3, 8] (fun s i wr => ∃ k : Nat, k ≤ n ∧ i = .int .i64 k ∧ s = .int .i64 (zs.take k).sum ∧ wr = w) (fun _ i _ => n - (intOf i).toNat)
  case atStart => exact ⟨0, Nat.zero_le _, rfl, rfl, rfl⟩
  case round =>
    obtain ⟨k, hk, rfl, rfl, rfl⟩ := hrel
    by_cases hlt : k < n
    · obtain ⟨b, off, rfl, hbw, hc⟩ := h.cell hlt
      have hck := hc k hlt
      have hs := sum_take zs (by omega : k < zs.length)
      have h1 := sum_leN (zs.take k) (fun x hx => HX.out x (List.mem_of_mem_take hx))
      have h2 := HX.out (gi zs k) (by rw [gi_lt (by omega)]; exact List.getElem_mem _)
      have h3 : (zs.take k).length ≤ 1000 := by rw [List.length_take]; omega
      obtain ⟨S, hS⟩ : ∃ S, S = (zs.take k).sum := ⟨_, rfl⟩
      obtain ⟨x, hx⟩ : ∃ x, x = gi zs k := ⟨_, rfl⟩
      rw [← hS] at hs h1 ⊢
      rw [← hx] at hs h2 hck
      have s0 : 0 ≤ S := h1.1
      have s1 : S ≤ 100000000000000 := by omega
      have x0 : 0 ≤ x := h2.1
      have x1 : x ≤ 100000000000 := h2.2
      have HS := Lib.hid hs
      clear hs hS hx hc h1 h2 h3
      go_wp2
      exact ⟨⟨k + 1, by omega, by go_num, by rw [HS.out], trivial⟩, by simp [intOf] <;> omega⟩
    · obtain rfl : k = n := by omega
      go_wp2
      go_ret
      exact ⟨ret_i (by rw [← hz, List.take_length]), Below.refl _ _⟩

end Go.Proofs.YtgeeifjbfceogaaGreatDoor
