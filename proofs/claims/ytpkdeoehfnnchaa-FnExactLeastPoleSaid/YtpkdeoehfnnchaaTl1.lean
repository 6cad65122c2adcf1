/- The places of a turned order, of the program and of its model. -/
import Derived.Test.YtpkdeoehfnnchaaTm1
import Derived.Test.YtpkdeoehfnnchaaTu1
import Derived.Test.YtpkdeoehfnnchaaPl1
import Derived.BigRegion
import Derived.BigQuiet
import Derived.Deep.QuietTactic
namespace Go.Proofs.Ytpkdeoehfnnchaa
open Go Go.RowKit

/-- what makes a turned order fit to be asked for places -/
structure TOk (zs us : List Int) : Prop where
  n3 : 3 ≤ zs.length
  n8 : zs.length ≤ 8
  len : us.length = zs.length
  zr : ∀ j, j < zs.length → 0 ≤ gi zs j ∧ gi zs j < zs.length
  ur : ∀ j, j < zs.length → -20 ≤ gi us j ∧ gi us j ≤ 20
theorem TOk.of {zs us : List Int} (h : trn zs us = true) : TOk zs us := by
  obtain ⟨h1, h2, h3, h4, _⟩ := trn_iff.1 h
  have ho := ord_iff.1 h1
  exact ⟨h2, ho.2.1, h3, fun j hj => ho.2.2.1 _ (mem_gi.2 ⟨j, hj, rfl⟩), fun j hj => allIn_at h4 (by omega)⟩

/-- the place of a whole number -/
def plc (zs us : List Int) (i : Int) : Int := gi zs (i % (zs.length : Int)).toNat + (zs.length : Int) * gi us (i % (zs.length : Int)).toNat + i - i % (zs.length : Int)

theorem mulIn {W b : Int} {B : Int} (h1 : 0 ≤ W) (h2 : W ≤ 8) (hb : -B ≤ b ∧ b ≤ B) (hB : 0 ≤ B) : -(8 * B) ≤ W * b ∧ W * b ≤ 8 * B := by
  have c1 : W * b ≤ 8 * B := by
    rcases Int.le_total 0 b with h | h
    · calc W * b ≤ 8 * b := Int.mul_le_mul_of_nonneg_right h2 h
        _ ≤ _ := by omega
    · have := Int.mul_nonpos_of_nonneg_of_nonpos h1 h; omega
  have c2 : -(8 * B) ≤ W * b := by
    rcases Int.le_total 0 b with h | h
    · have := Int.mul_nonneg h1 h; omega
    · calc -(8 * B) ≤ 8 * b := by omega
        _ ≤ W * b := Int.mul_le_mul_of_nonpos_right h2 h
  exact ⟨c2, c1⟩

set_option maxRecDepth 100000 in
set_option maxHeartbeats 2000000 in
theorem tell_any (b : Nat) (A : Option Addr) (n c : Nat) (zs : List Int) (E : Option Addr) (m d : Nat) (us : List Int) (p : Nat) (q : Int) (w : World)
    (c0 : w.cell? ⟨b, 0, none⟩ = some (.slice A n c)) (c1 : w.cell? ⟨b, 1, none⟩ = some (.slice E m d)) (hb : b < w.heap.size) (h : RI w A n zs) (g : RI w E m us) (hp : p < n) (hpm : p < m) (_ : n ≤ 1000000) (_ : m ≤ 1000000) (hq : -10000000 ≤ q ∧ q ≤ 10000000) (hu : -100000 ≤ gi us p ∧ gi us p ≤ 100000) :
    Calls Try.prog 50 #[.agg #[.int .i64 (p : Int), .int .i64 q], .pointer (some ⟨b, 0, none⟩)] w (RetP2 (gi zs p) (q + gi us p) w) := by
  obtain ⟨ba, oa, rfl, hba, hca⟩ := h.cell hp
  obtain ⟨bb, ob, rfl, hbb, hcb⟩ := g.cell hpm
  have k0 := hca p hp
  have k1 := hcb p hpm
  have i1 : (0 : Int) ≤ (p : Int) := by omega
  have i2 : (p : Int) < (n : Int) := by omega
  have i3 : (p : Int) < (m : Int) := by omega
  obtain ⟨x, hx⟩ : ∃ x, x = gi zs p := ⟨_, rfl⟩
  obtain ⟨y, hy⟩ : ∃ y, y = gi us p := ⟨_, rfl⟩
  rw [← hx] at k0 ⊢
  rw [← hy] at k1 hu ⊢
  have hwr : IntKind.i64.wrap (q + y) = q + y := IntWalk.i64_in _ (by omega)
  clear hca hcb h g hx hy
  go_enter Try.func50, Try.ntmps50
  go_wp2
  go_region
  all_goals
    go_wp2
    exact bodyPost_ret (v := .agg #[.int .i64 x, .int .i64 (q + y)]) (by simp [results, Try.results50, go_sem]) rfl ⟨rfl, (by repeat (first | exact Below.refl _ _ | exact HB.out | refine Below.setCell ?_ (by simp <;> omega) _ | refine Below.alloc ?_ (by simp <;> omega) _ | refine Below.drew ?_))⟩

def FreshFn (A : Option Addr) (n c : Nat) (E : Option Addr) (m d : Nat) (w : World) (e : Ending) (w' : World) : Prop :=
  e = .returned (.func (.func 50) #[] #[.pointer (some ⟨w.heap.size, 0, none⟩)]) ∧ Cell2 w' w.heap.size (.slice A n c) (.slice E m d) ∧ Below w.heap.size w w'
set_option maxHeartbeats 400000 in
theorem teller_any (A : Option Addr) (n c : Nat) (E : Option Addr) (m d : Nat) (w : World) :
    Calls Try.prog 43 #[.agg #[.slice A n c, .slice E m d]] w (FreshFn A n c E m d w) := by
  go_enter Try.func43, Try.ntmps43
  go_wp2
  go_ret
  exact ⟨rfl, (cellNew w (.slice A n c) (.slice E m d) 30).out, (by repeat (first | exact Below.refl _ _ | exact HB.out | refine Below.setCell ?_ (by simp <;> omega) _ | refine Below.alloc ?_ (by simp <;> omega) _ | refine below_drewN ?_ _))⟩

theorem emq (i : Int) {n : Int} : i = i % n + n * (i / n) := (Int.emod_add_mul_ediv i n).symm
theorem tmk {i n : Int} : (i.tmod n + n) % n = i % n := by
  have h1 : i.tmod n = i - n * i.tdiv n := Int.tmod_def i n
  rw [h1, show i - n * i.tdiv n + n = i + n * (1 - i.tdiv n) by rw [Int.mul_sub]; omega, Int.add_mul_emod_self_left]
theorem divIn {i n : Int} (hn : 3 ≤ n) (hi : -1000000 ≤ i ∧ i ≤ 1000000) : -1000000 ≤ i / n ∧ i / n ≤ 1000000 := by
  constructor
  · exact Int.le_ediv_of_mul_le (by omega) (by have : -1000000 * n ≤ -1000000 := by omega
                                               omega)
  · exact Int.ediv_le_of_le_mul (by omega) (by have : 1000000 ≤ 1000000 * n := by omega
                                               omega)

set_option maxRecDepth 100000 in
set_option maxHeartbeats 2000000 in
theorem iplaceOf_any (A : Option Addr) (n c : Nat) (zs : List Int) (E : Option Addr) (m d : Nat) (us : List Int) (i : Int) (w : World) (h : RI w A n zs) (g : RI w E m us) (ok : TOk zs us) (hi : -1000000 ≤ i ∧ i ≤ 1000000) :
    Calls Try.prog 34 #[.agg #[.slice A n c, .slice E m d], .int .i64 i] w (RetI (plc zs us i) w) := by
  have hzl := h.1
  have hul := g.1
  have n3 := ok.n3; have n8 := ok.n8; have hln := ok.len
  have hmn : m = n := by omega
  have HA0 : Hid (RB w w.heap.size A n zs) := RB.of_ri h
  have HE0 : Hid (RB w w.heap.size E m us) := RB.of_ri g
  have hq := divIn (i := i) (n := (n : Int)) (by omega) hi
  have hk0 := Int.emod_nonneg i (b := (n : Int)) (by omega)
  have hk1 := Int.emod_lt_of_pos i (b := (n : Int)) (by omega)
  have hdec := emq i (n := (n : Int))
  have hpl : plc zs us i = gi zs (i % (n : Int)).toNat + (n : Int) * gi us (i % (n : Int)).toNat + i - i % (n : Int) := by unfold plc; rw [hzl]
  obtain ⟨k, hk⟩ : ∃ k : Nat, i % (n : Int) = (k : Int) := ⟨(i % (n : Int)).toNat, by omega⟩
  rw [hk] at hk0 hk1 hdec hpl
  rw [Int.toNat_natCast] at hpl
  obtain ⟨q, hqq⟩ : ∃ q, q = i / (n : Int) := ⟨_, rfl⟩
  rw [← hqq] at hq hdec
  have hzr := ok.zr k (by omega)
  have hur := ok.ur k (by omega)
  have HPA := Lib.hid (placeAt_any (k : Int) q (n : Int) i · hdec (by omega) (by omega) (by omega) (by omega) (by omega))
  have hnum : plc zs us i = gi zs k + (n : Int) * (q + gi us k) := by rw [hpl, Int.mul_add]; omega
  have HNU := Lib.hid (number_any (gi zs k) (q + gi us k) (n : Int) (plc zs us i) · hnum (by omega) (by omega) (by omega))
  have HTL := Lib.hid (fun (b : Nat) (w' : World) (e0 : w'.cell? ⟨b, 0, none⟩ = some (.slice A n c)) (e1 : w'.cell? ⟨b, 1, none⟩ = some (.slice E m d)) (hb : b < w'.heap.size) (r1 : RI w' A n zs) (r2 : RI w' E m us) => tell_any b A n c zs E m d us k q w' e0 e1 hb r1 r2 (by omega) (by omega) (by omega) (by omega) (by omega) (by omega))
  obtain ⟨y, hy⟩ : ∃ y, y = plc zs us i := ⟨_, rfl⟩
  rw [← hy] at HNU ⊢
  clear hnum hpl hdec hqq hk ok h g hy hmn hln hzl hul
  go_enter Try.func34, Try.ntmps34
  go_wp2_with fail
  have HB := belAlloc (belRefl (w := w)) (.cells #[.slice A n c, .slice E m d] 30)
  refine (teller_any A n c E m d _).mono ?_
  rintro e w1 ⟨rfl, hc2, hb⟩
  have HF := Lib.hid hc2
  replace HB := belStep HB hb
  simp only [World.size_alloc] at HF
  clear hc2 hb
  go_wp2_with fail
  refine (HPA.out _).mono ?_
  rintro e w2 ⟨rfl, hb⟩
  replace HF := cellStep HF hb
  replace HB := belStep HB hb
  clear hb
  go_wp2_with fail
  refine (HTL.out _ _ HF.out.c0 HF.out.c1 HF.out.lt (rbK HA0 HB.out) (rbK HE0 HB.out)).mono ?_
  rintro e w3 ⟨rfl, hb⟩
  replace HB := belStep HB hb
  clear hb
  go_wp2_with fail
  refine (HNU.out _).mono ?_
  rintro e w4 ⟨rfl, hb⟩
  replace HB := belStep HB hb
  clear hb
  go_wp2
  go_ret
  exact ⟨rfl, HB.out⟩

set_option maxRecDepth 100000 in
set_option maxHeartbeats 2000000 in
theorem poPlace_any (A : Option Addr) (n c : Nat) (zs : List Int) (E : Option Addr) (m d : Nat) (us : List Int) (i : Int) (w : World) (h : RI w A n zs) (g : RI w E m us) (ok : TOk zs us) (hi : -1000000 ≤ i ∧ i ≤ 1000000) :
    Calls Try.prog 41 #[.agg #[.slice A n c, .slice E m d], .int .i64 i] w (RetI (plc zs us i) w) := by
  have hzl := h.1
  have hul := g.1
  have n3 := ok.n3; have n8 := ok.n8; have hln := ok.len
  have hmn : m = n := by omega
  have hk0 := Int.emod_nonneg i (b := (n : Int)) (by omega)
  have hk1 := Int.emod_lt_of_pos i (b := (n : Int)) (by omega)
  have hpl : plc zs us i = gi zs (i % (n : Int)).toNat + (n : Int) * gi us (i % (n : Int)).toNat + i - i % (n : Int) := by unfold plc; rw [hzl]
  have e2 : (i.tmod (n : Int) + (n : Int)) % (n : Int) = i % (n : Int) := tmk
  have b1 := Int.lt_tmod_of_pos i (b := (n : Int)) (by omega)
  have b2 := Int.tmod_lt_of_pos i (b := (n : Int)) (by omega)
  obtain ⟨k, hk⟩ : ∃ k : Nat, i % (n : Int) = (k : Int) := ⟨(i % (n : Int)).toNat, by omega⟩
  rw [hk] at hk0 hk1 hpl e2
  rw [Int.toNat_natCast] at hpl
  obtain ⟨y, hy⟩ : ∃ y, y = i.tmod (n : Int) := ⟨_, rfl⟩
  rw [← hy] at e2 b1 b2
  have e1 : i.tmod (n : Int) = y := hy.symm
  have hzr := ok.zr k (by omega)
  have hur := ok.ur k (by omega)
  obtain ⟨ba, oa, rfl, hba, hca⟩ := h.cell (j := k) (by omega)
  obtain ⟨bb, ob, rfl, hbb, hcb⟩ := g.cell (j := k) (by omega)
  have k0 := hca k (by omega)
  have k1 := hcb k (by omega)
  obtain ⟨x, hx⟩ : ∃ x, x = gi zs k := ⟨_, rfl⟩
  obtain ⟨u, hu⟩ : ∃ u, u = gi us k := ⟨_, rfl⟩
  rw [← hx] at k0 hzr hpl
  rw [← hu] at k1 hur hpl
  have hmi := mulIn (W := (n : Int)) (b := u) (B := 20) (by omega) (by omega) (by omega) (by omega)
  have HP := Lib.hid hpl
  have hw1 : IntKind.i64.wrap ((n : Int) * u) = (n : Int) * u := IntWalk.i64_in _ (by omega)
  have hkm : (k : Int) < (m : Int) := by omega
  have hn8' : (n : Int) ≤ 8 := by omega
  clear hca hcb h g hx hu hpl hk ok hy hmn hln hzl hul
  go_enter Try.func41, Try.ntmps41
  have hx8 : 0 ≤ x ∧ x ≤ 8 := by omega
  have hw2 : IntKind.i64.wrap (x + (n : Int) * u) = x + (n : Int) * u := IntWalk.i64_in _ (by omega)
  have hw3 : IntKind.i64.wrap (x + (n : Int) * u + i) = x + (n : Int) * u + i := IntWalk.i64_in _ (by omega)
  have hw4 : IntKind.i64.wrap (x + (n : Int) * u + i - (k : Int)) = x + (n : Int) * u + i - (k : Int) := IntWalk.i64_in _ (by omega)
  go_wp2
  go_quiet (fail)
  go_wp2
  go_ret
  exact ⟨ret_i HP.out.symm, below_drewN (by repeat (first | exact Below.refl _ _ | exact HB.out | refine Below.setCell ?_ (by simp <;> omega) _ | refine Below.alloc ?_ (by simp <;> omega) _ | refine below_drewN ?_ _)) _⟩
end Go.Proofs.Ytpkdeoehfnnchaa
