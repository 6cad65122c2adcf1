/- What the laws of more than one function go through: kSame, kSum, kHas, big. -/
import Derived.Test.YtgadfjfokgodgaaBase3
import Derived.Test.YtgadfjfokgodgaaMgC
import Derived.Deep.QuietTactic
import Derived.BigQuiet
import Derived.IntWalk
namespace Go.Proofs.Ytgadfjfokgodgaa
open Go Go.RowKit

/-- may the two inputs be looked at -/
def bigB (n m : Nat) : Bool := decide (1048576 < n) || decide (1048576 - (n : Int) < m)
set_option maxHeartbeats 400000 in
theorem big_any (A : Option Addr) (n c : Nat) (B : Option Addr) (m d : Nat) (w : World) (hn : n ≤ 9223372036854775807) (_hm : m ≤ 9223372036854775807) :
    Calls Try.prog 4 #[.slice A n c, .slice B m d] w (RetB (bigB n m) w) := by
  by_cases h1 : (1048576 : Int) < n
  · have E : Hid (bigB n m = true) := by show bigB n m = true; unfold bigB; rw [decide_eq_true (by omega)]; rfl
    go_enter Try.func4, Try.ntmps4
    go_wp2
    go_ret
    exact ⟨ret_b E.out.symm, Below.refl _ _⟩
  · have E : Hid (bigB n m = decide (1048576 - (n : Int) < m)) := by show bigB n m = _; unfold bigB; rw [decide_eq_false (by omega)]; rfl
    go_enter Try.func4, Try.ntmps4
    go_wp2
    all_goals
      go_ret
      exact ⟨ret_b (by rw [E.out]), Below.refl _ _⟩

set_option maxHeartbeats 400000 in
theorem kSame_any (A : Option Addr) (n c : Nat) (zs : List Int) (B : Option Addr) (m d : Nat) (ys : List Int) (w : World) (h : RI w A n zs) (g : RI w B m ys) (hn : n ≤ 1048576) (hm : m ≤ 1048576) :
    Calls Try.prog 14 #[.slice A n c, .slice B m d] w (RetB (eqB zs ys) w) := by
  have hz := h.1; have hy := g.1
  by_cases hnm : n = m
  · subst hnm
    go_enter Try.func14, Try.ntmps14
    go_wp2
    go_loopw [13] (fun i wr => ∃ k : Nat, k ≤ n ∧ i = .int .i64 k ∧ (∀ j, j < k → gi zs j = gi ys j) ∧ Below w.heap.size w wr) (fun i _ => n - (intOf i).toNat)
    case atStart => exact ⟨0, Nat.zero_le _, rfl, fun j hj => absurd hj (by omega), Below.refl _ _⟩
    case round =>
      obtain ⟨k, hk, rfl, hall, hb⟩ := hrel
      have H3 := Lib.hid hall
      have H2 := Lib.hid hb
      clear hall
      by_cases hlt : k < n
      · obtain ⟨b, off, rfl, hbw, hc⟩ := h.cell hlt
        obtain ⟨b2, off2, rfl, hbw2, hc2⟩ := g.cell hlt
        have hck : wr.cell? ⟨b, off + k, none⟩ = some (.int .i64 (gi zs k)) := (hb.cell (p := ⟨b, off + k, none⟩) hbw).trans (hc k hlt)
        have hck2 : wr.cell? ⟨b2, off2 + k, none⟩ = some (.int .i64 (gi ys k)) := (hb.cell (p := ⟨b2, off2 + k, none⟩) hbw2).trans (hc2 k hlt)
        clear hc hc2 hb
        by_cases he : gi zs k = gi ys k
        · have hne : (gi zs k != gi ys k) = false := by simp [he]
          have HE := Lib.hid he
          clear he
          go_wp2
          go_quiet (fail)
          go_wp2
          exact ⟨⟨k + 1, by omega, by go_num, fun j hj => by
            by_cases e : j = k
            · rw [e]; exact HE.out
            · exact H3.out j (by omega), by first | exact H2.out | exact below_drewN H2.out _⟩, by simp [intOf] <;> omega⟩
        · have hne : (gi zs k != gi ys k) = true := by simp [he]
          have E : Hid (eqB zs ys = false) := by show eqB zs ys = false; unfold eqB; exact decide_eq_false (fun e => he (by rw [e]))
          clear he
          go_wp2
          go_quiet (fail)
          go_wp2
          go_ret
          exact ⟨ret_b E.out.symm, by first | exact H2.out | exact below_drewN H2.out _⟩
      · obtain rfl : k = n := by omega
        have E : Hid (eqB zs ys = true) := by show eqB zs ys = true; unfold eqB; exact decide_eq_true (gi_ext (by omega) (fun j hj => H3.out j (by omega)))
        clear hb
        go_wp2
        go_ret
        exact ⟨ret_b E.out.symm, H2.out⟩
  · have hne : ((n : Int) != (m : Int)) = true := by simp; omega
    have E : Hid (eqB zs ys = false) := by show eqB zs ys = false; unfold eqB; exact decide_eq_false (fun e => hnm (by rw [← hz, ← hy, e]))
    go_enter Try.func14, Try.ntmps14
    go_wp2
    go_ret
    exact ⟨ret_b E.out.symm, Below.refl _ _⟩

theorem sum_le (zs : List Int) (h : ∀ x ∈ zs, 0 ≤ x ∧ x ≤ 1000000) : 0 ≤ zs.sum ∧ zs.sum ≤ 1000000 * zs.length := by
  induction zs with
  | nil => simp
  | cons z zs ih =>
    have h1 := h z (by simp)
    have h2 := ih (fun x hx => h x (by simp [hx]))
    simp only [List.sum_cons, List.length_cons]
    omega
theorem sum_take (zs : List Int) {k : Nat} (hk : k < zs.length) : (zs.take (k + 1)).sum = (zs.take k).sum + gi zs k := by
  rw [show zs.take (k + 1) = zs.take k ++ [zs[k]] by rw [List.take_append_getElem], List.sum_append, gi_lt hk]
  simp

set_option maxHeartbeats 400000 in
theorem kHas_any (A : Option Addr) (n c : Nat) (zs : List Int) (v : Int) (w : World) (h : RI w A n zs) (hn : n ≤ 1048576) :
    Calls Try.prog 17 #[.slice A n c, .int .i64 v] w (fun e w' => e = .returned (.bool (decide (v ∈ zs))) ∧ w' = w) := by
  have hz := h.1
  go_enter Try.func17, Try.ntmps17
  go_wp2
  go_loopw [9] (fun i wr => ∃ k : Nat, k ≤ n ∧ i = .int .i64 k ∧ (∀ j, j < k → gi zs j ≠ v) ∧ wr = w) (fun i _ => n - (intOf i).toNat)
  case atStart => exact ⟨0, Nat.zero_le _, rfl, fun j hj => absurd hj (by omega), rfl⟩
  case round =>
    obtain ⟨k, hk, rfl, hall, rfl⟩ := hrel
    have H3 := Lib.hid hall
    clear hall
    by_cases hlt : k < n
    · obtain ⟨b, off, rfl, hbw, hc⟩ := h.cell hlt
      have hck := hc k hlt
      clear hc
      by_cases he : gi zs k = v
      · have hne : (gi zs k == v) = true := by simp [he]
        have E : Hid (decide (v ∈ zs) = true) := by
          show decide (v ∈ zs) = true
          rw [← he, gi_lt (by omega)]
          exact decide_eq_true (List.getElem_mem _)
        clear he
        go_wp2
        go_ret
        exact ⟨ret_b E.out.symm, rfl⟩
      · have hne : (gi zs k == v) = false := by simp [he]
        have HE := Lib.hid he
        clear he
        go_wp2
        exact ⟨⟨k + 1, by omega, by go_num, fun j hj => by
          by_cases e : j = k
          · rw [e]; exact HE.out
          · exact H3.out j (by omega), trivial⟩, by simp [intOf] <;> omega⟩
    · obtain rfl : k = n := by omega
      have E : Hid (decide (v ∈ zs) = false) := by
        show decide (v ∈ zs) = false
        refine decide_eq_false (fun hm => ?_)
        obtain ⟨j, hj, e⟩ := List.mem_iff_getElem.1 hm
        exact H3.out j (by omega) (by rw [gi_lt hj]; exact e)
      go_wp2
      go_ret
      exact ⟨ret_b E.out.symm, rfl⟩
end Go.Proofs.Ytgadfjfokgodgaa
