/- The draws of chapter 4's numbers; ratios compared by the combined laws. -/
import Derived.Test.YtbgkhehopldilaaCu10
import Derived.Test.YtbgkhehopldilaaRq1
namespace Go.Proofs.Ytbgkhehopldilaa
open Go Go.RowKit

set_option maxRecDepth 100000 in
set_option maxHeartbeats 1000000 in
theorem nRatios_same (A : Option Addr) (n c : Nat) (F : List Int) (A2 : Option Addr) (c2 : Nat) (w : World) (h : RQ w A n F) (g : RQ w A2 n F) (hn : n ≤ 1048576) :
    Calls Try.prog 14 #[.slice A n c, .slice A2 n c2] w (RetB true w) := by
  have HA := Lib.hid h
  have HG := Lib.hid g
  clear h g
  go_enter Try.func14, Try.ntmps14
  go_wp2
  go_loopw [13] (fun i wr => ∃ k : Nat, k ≤ n ∧ i = .int .i64 k ∧ Below w.heap.size w wr) (fun i _ => n - (intOf i).toNat)
  case atStart => exact ⟨0, Nat.zero_le _, rfl, Below.refl _ _⟩
  case round =>
    obtain ⟨k, hk, rfl, hb⟩ := hrel
    have HB := Lib.hid hb
    by_cases hlt : k < n
    · obtain ⟨b, off, rfl, hbw, hc⟩ := (HA.out.below hb).2 (by omega)
      obtain ⟨b2, off2, rfl, hbw2, hc2⟩ := (HG.out.below hb).2 (by omega)
      have c0 := hc (k * 2) (by omega)
      have c1 := hc (k * 2 + 1) (by omega)
      have d0 := hc2 (k * 2) (by omega)
      have d1 := hc2 (k * 2 + 1) (by omega)
      obtain ⟨x, hx⟩ : ∃ x, x = gi F (k * 2) := ⟨_, rfl⟩
      obtain ⟨y, hy⟩ : ∃ y, y = gi F (k * 2 + 1) := ⟨_, rfl⟩
      rw [← hx] at c0 d0
      rw [← hy] at c1 d1
      rw [← Nat.add_assoc] at c1 d1
      have i1 : (0 : Int) ≤ (k : Int) := by omega
      have i2 : (k : Int) < (n : Int) := by omega
      have e0 : (x != x) = false := by simp
      have e1 : (y != y) = false := by simp
      clear hb hc hc2 hx hy
      go_wp2
      go_quiet (fail)
      go_wp2
      exact ⟨⟨k + 1, by omega, by go_num, by first | exact HB.out | exact below_drewN HB.out _⟩, by simp [intOf] <;> omega⟩
    · obtain rfl : k = n := by omega
      go_wp2
      go_ret
      exact ⟨rfl, HB.out⟩

/-- two numbers that are drawn -/
def DrawnN2 (w : World) (b : Nat) (A : Option Addr) (n c : Nat) (bs : List Int) (k : Nat) (e : Ending) (w' : World) : Prop :=
  ∃ u v : Int, e = .returned (.tuple #[.int .i64 u, .int .i64 v]) ∧ -100 ≤ u ∧ u ≤ 100 ∧ -100 ≤ v ∧ v ≤ 100 ∧ Cur w' b A n c bs k ∧ w.grownBy w' (some b)

set_option maxRecDepth 100000 in
set_option maxHeartbeats 1000000 in
theorem fall_any (b : Nat) (A : Option Addr) (n c : Nat) (bs : List Int) (k0 : Nat) (w : World) (h : Cur w b A n c bs k0) (hn : n ≤ 1048576) (hk : k0 ≤ 1000000) :
    Calls Try.prog 32 #[.pointer (some ⟨b, 0, none⟩), .int .i64 6] w (DrawnN2 w b A n c bs (k0 + 6)) := by
  have HV1 : Hid (∀ i, i < 5 → -1 ≤ gi [1, 2, 6, 7, -1] i ∧ gi [1, 2, 6, 7, -1] i ≤ 7) := by show ∀ i, _; decide
  have HV2 : Hid (∀ i, i < 5 → -1 ≤ gi [0, 1, 20, 21, -1] i ∧ gi [0, 1, 20, 21, -1] i ≤ 21) := by show ∀ i, _; decide
  have HC0 := Lib.hid h
  clear h
  go_enter Try.func32, Try.ntmps32
  go_wp2_with fail
  refine (oneD_any b A n c bs k0 10 _ HC0.out hn (by omega) (by omega)).mono ?_
  rintro e w1 ⟨q, rfl, hc, hg⟩
  have HC1 := Lib.hid hc
  have HG1 := Lib.hid hg
  clear hc hg HC0
  rcases q with _ | _
  · go_wp2_with fail
    refine (pick_any b A n c bs (k0 + 2) 5 _ HC1.out hn (by omega) (by omega)).mono ?_
    rintro e w2 ⟨v, rfl, v0, v1, hc, hg⟩
    rw [if_pos (by decide)] at v1
    have HC2 := Lib.hid hc
    have HG2 := Lib.hid (grownTr HG1.out hg)
    clear hc hg HC1 HG1
    go_wp2_with fail
    refine (pick_any b A n c bs (k0 + 2 + 2) 9 _ HC2.out hn (by omega) (by omega)).mono ?_
    rintro e w3 ⟨x, rfl, x0, x1, hc, hg⟩
    rw [if_pos (by decide)] at x1
    have HC3 := Lib.hid hc
    have HG3 := Lib.hid (grownTr HG2.out hg)
    clear hc hg HC2 HG2
    go_wp2
    go_ret2
    exact ⟨_, _, rfl, by omega, by omega, by omega, by omega, HC3.out, HG3.out⟩
  · go_wp2_with fail
    refine (among_any b A n c bs (k0 + 2) (some ⟨w1.heap.size, 0, none⟩) 5 5 [1, 2, 6, 7, -1] _ (HC1.out.below (allocBel _ _)) hn (by omega) (rowL _ [1, 2, 6, 7, -1]) (by omega) (by omega) (by simp [blk]; have := HC1.out.lt; omega)).mono ?_
    rintro e w2 ⟨i, rfl, hi, hc, hg⟩
    have hv := HV1.out i hi
    obtain ⟨u, hu⟩ : ∃ u, u = gi [1, 2, 6, 7, -1] i := ⟨_, rfl⟩
    rw [← hu] at hv ⊢
    have HC2 := Lib.hid hc
    have HG2 := Lib.hid (grownTr (grown_below HG1.out (allocBel _ _)) hg)
    clear hc hg HC1 HG1 hu hi
    go_wp2_with fail
    refine (among_any b A n c bs (k0 + 2 + 2) (some ⟨w2.heap.size, 0, none⟩) 5 5 [0, 1, 20, 21, -1] _ (HC2.out.below (allocBel _ _)) hn (by omega) (rowL _ [0, 1, 20, 21, -1]) (by omega) (by omega) (by simp [blk]; have := HC2.out.lt; omega)).mono ?_
    rintro e w3 ⟨i2, rfl, hi2, hc, hg⟩
    have hx := HV2.out i2 hi2
    obtain ⟨x, hxx⟩ : ∃ u, u = gi [0, 1, 20, 21, -1] i2 := ⟨_, rfl⟩
    rw [← hxx] at hx ⊢
    have HC3 := Lib.hid hc
    have HG3 := Lib.hid (grownTr (grown_below HG2.out (allocBel _ _)) hg)
    clear hc hg HC2 HG2 hxx hi2
    go_wp2
    go_ret2
    exact ⟨u, x, rfl, by omega, by omega, by omega, by omega, HC3.out, HG3.out⟩

/-- four numbers -/
def FreshN4 (w : World) (e : Ending) (w' : World) : Prop :=
  ∃ a b c d : Int, e = .returned (.tuple #[.int .i64 a, .int .i64 b, .int .i64 c, .int .i64 d]) ∧ (-100 ≤ a ∧ a ≤ 100) ∧ (-100 ≤ b ∧ b ≤ 100) ∧ (-100 ≤ c ∧ c ≤ 100) ∧ (-100 ≤ d ∧ d ≤ 100) ∧ Below w.heap.size w w'
def FreshN3 (w : World) (e : Ending) (w' : World) : Prop :=
  ∃ a b c : Int, e = .returned (.tuple #[.int .i64 a, .int .i64 b, .int .i64 c]) ∧ (-100 ≤ a ∧ a ≤ 100) ∧ (-100 ≤ b ∧ b ≤ 100) ∧ (-100 ≤ c ∧ c ≤ 100) ∧ Below w.heap.size w w'

set_option maxRecDepth 100000 in
set_option maxHeartbeats 1000000 in
theorem drawCountEnds_any (A : Option Addr) (n c : Nat) (bs : List Int) (w : World) (h : BI w A n bs) (hn : n ≤ 1048576) : Calls Try.prog 17 #[.slice A n c] w (FreshN4 w) := by
  have HC := Lib.hid (Cur.new w A n c bs 52 h)
  clear h
  go_enter Try.func17, Try.ntmps17
  go_wp2_with fail
  refine (fall_any w.heap.size A n c bs 0 _ HC.out hn (by omega)).mono ?_
  rintro e w1 ⟨u, v, rfl, u0, u1, v0, v1, hc, hg⟩
  have HC1 := Lib.hid hc
  have HB1 := Lib.hid (belCurG (allocBel w _) (Nat.le_refl _) hg)
  clear hc hg HC
  go_wp2_with fail
  refine (pick_any w.heap.size A n c bs 6 7 _ HC1.out hn (by omega) (by omega)).mono ?_
  rintro e w2 ⟨x, rfl, x0, x1, hc, hg⟩
  rw [if_pos (by decide)] at x1
  have HC2 := Lib.hid hc
  have HB2 := Lib.hid (belCurG HB1.out (Nat.le_refl _) hg)
  have i1 : IntKind.i64.wrap (x - 1) = x - 1 := IntWalk.i64_in _ (by omega)
  clear hc hg HC1 HB1
  go_wp2_with fail
  refine (pick_any w.heap.size A n c bs 8 7 _ HC2.out hn (by omega) (by omega)).mono ?_
  rintro e w3 ⟨y, rfl, y0, y1, hc, hg⟩
  rw [if_pos (by decide)] at y1
  have HB3 := Lib.hid (belCurG HB2.out (Nat.le_refl _) hg)
  have i2 : IntKind.i64.wrap (y - 1) = y - 1 := IntWalk.i64_in _ (by omega)
  clear hc hg HC2 HB2
  go_wp2
  exact bodyPost_ret (v := .tuple #[.int .i64 u, .int .i64 v, .int .i64 (x - 1), .int .i64 (y - 1)]) (by simp [results, Try.results17, go_sem]) rfl ⟨u, v, x - 1, y - 1, rfl, ⟨by omega, by omega⟩, ⟨by omega, by omega⟩, ⟨by omega, by omega⟩, ⟨by omega, by omega⟩, HB3.out⟩

set_option maxHeartbeats 1000000 in
theorem drawChancesFrom_any (A : Option Addr) (n c : Nat) (bs : List Int) (w : World) (h : BI w A n bs) (hn : n ≤ 1048576) : Calls Try.prog 5 #[.slice A n c] w (FreshN3 w) := by
  have HD := Lib.hid (drawCountEnds_any A n c bs w h hn)
  clear h
  go_enter Try.func5, Try.ntmps5
  go_wp2_with fail
  refine HD.out.mono ?_
  rintro e w1 ⟨x, y, z, u, rfl, hx, hy, hz, _, hb⟩
  have HB := Lib.hid hb
  clear hb HD
  go_wp2
  exact bodyPost_ret (v := .tuple #[.int .i64 x, .int .i64 y, .int .i64 z]) (by simp [results, Try.results5, go_sem]) rfl ⟨x, y, z, rfl, hx, hy, hz, HB.out⟩
end Go.Proofs.Ytbgkhehopldilaa
