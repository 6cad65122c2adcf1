/- The least depths of all orders, of the model. -/
import Derived.Test.YtnhhbpogjhcibaaLd3
import Derived.Test.YtnhhbpogjhcibaaApL
import Derived.Test.YtnhhbpogjhcibaaGr1
namespace Go.Proofs.Ytnhhbpogjhcibaa
open Go Go.RowKit

/-- what is known of the order with a rank -/
def farV (n : Nat) (Q : List (List Int)) (d : List Int → Nat) (i : Nat) : Int := if gz (ordsK n n) i ∈ Q then (d (gz (ordsK n n) i) : Int) else -1
theorem farV_yes {n : Nat} (h2 : 2 ≤ n) (h6 : n ≤ 6) {Q : List (List Int)} {d : List Int → Nat} {q : List Int} (hq : OKp n q) (h : q ∈ Q) : farV n Q d (rk q) = (d q : Int) := by
  unfold farV
  rw [(gz_rk6 h2 h6 hq).2, if_pos h]
theorem farV_no {n : Nat} (h2 : 2 ≤ n) (h6 : n ≤ 6) {Q : List (List Int)} {d : List Int → Nat} {q : List Int} (hq : OKp n q) (h : q ∉ Q) : farV n Q d (rk q) = -1 := by
  unfold farV
  rw [(gz_rk6 h2 h6 hq).2, if_neg h]
theorem farV_new {n : Nat} (h2 : 2 ≤ n) (h6 : n ≤ 6) {Q : List (List Int)} {d : List Int → Nat} {x : List Int} (hx : OKp n x) (v : Nat) (h : x ∉ Q) {i : Nat} (hi : i < (ordsK n n).length) :
    farV n (Q ++ [x]) (upd d x v) i = if i = rk x then (v : Int) else farV n Q d i := by
  by_cases e : i = rk x
  · subst e
    rw [if_pos rfl, farV_yes h2 h6 hx (by simp), upd_same]
  · rw [if_neg e]
    have hne : gz (ordsK n n) i ≠ x := fun e2 => e (by rw [← e2, rk_gz6 h2 h6 hi])
    unfold farV
    rw [upd_other hne]
    by_cases h3 : gz (ordsK n n) i ∈ Q
    · rw [if_pos h3, if_pos (by simp [h3])]
    · rw [if_neg h3, if_neg (by simp [h3, hne])]
/-- the least depths of all orders, by their ranks -/
noncomputable def farL (n : Nat) : List Int := (ordsK n n).map fun q => (dep n q : Int)
theorem farL_len (n : Nat) : (farL n).length = (ordsK n n).length := by unfold farL; rw [List.length_map]
theorem gi_farL {n i : Nat} (h : i < (ordsK n n).length) : gi (farL n) i = (dep n (gz (ordsK n n) i) : Int) := by
  rw [gi_lt (by rw [farL_len]; exact h)]
  simp [farL, gz, List.getD, h]
theorem OII.setB {w : World} {B M : Nat} {A : Option Addr} {n c : Nat} {zss : List (List Int)} {S : List Sl} (h : OII w B M A n c zss S) {p : Addr} (hp : p.block < B) (u : Value) : OII (w.setCell p u) B M A n c zss S :=
  ⟨ownsRow_setCell_below h.own hp u, h.lS, h.lz, fun j s hs => (h.inn j s hs).setBelow hp u, h.dis, h.lt, by have := h.le; simpa [World.setCell] using this⟩
/-- .. and where what is written lies behind all of it -/
theorem OII.setA {w : World} {B M K : Nat} {A : Option Addr} {n c : Nat} {zss : List (List Int)} {S : List Sl} (h : OII w B M A n c zss S) (hMK : M ≤ K) (hAK : ∀ b, blk A = some b → b < K) {p : Addr} (hp : K ≤ p.block) (u : Value) : OII (w.setCell p u) B M A n c zss S :=
  h.far hMK hAK (A' := some p) (grownSet w p u) (fun b hb => .inr (by simp only [blk, Option.map_some, Option.some.injEq] at hb; omega))
theorem OII.atMost {w : World} {B M K : Nat} {A : Option Addr} {n c : Nat} {zss : List (List Int)} {S : List Sl} (h : OII w B M A n c zss S) (hM : M ≤ K) (hK : K ≤ w.heap.size) : OII w B K A n c zss S :=
  ⟨h.own, h.lS, h.lz, h.inn, h.dis, fun j s hs b hb => Nat.lt_of_lt_of_le (h.lt j s hs b hb) hM, hK⟩
theorem LV_len (n : Nat) (hn : n ≤ 6) : (LV n).length ≤ 262144 := Nat.le_trans (lvK_len n (by omega) n 0) (Nat.le_trans (Nat.pow_le_pow_right (by omega) hn) (by decide))

set_option maxRecDepth 100000 in
set_option maxHeartbeats 4000000 in
theorem lvFar_any (n : Nat) (w : World) (h2 : 2 ≤ n) (h6 : n ≤ 6) :
    Calls Try.prog 56 #[.int .i64 (n : Int)] w (fun e w' => ∃ A c, e = .returned (.slice A (ordsK n n).length c) ∧ RI w' A (ordsK n n).length (farL n) ∧ Below w.heap.size w w') := by
  have hN := ords_len6 h2 h6
  have HGR := Lib.hid (fun q (hq : OKp n q) => gz_rk6 h2 h6 hq)
  have HAL := Lib.hid (fun w2 => alOrders_any n w2 (by omega) h6)
  have HLV := Lib.hid (fun w2 => lvAll_any n (by omega) n 0 (by omega) (by omega) (by omega) w2)
  have HLL := Lib.hid (LV_len n h6)
  obtain ⟨O, hO⟩ : ∃ O, O = ordsK n n := ⟨_, rfl⟩
  rw [← hO] at HAL hN HGR ⊢
  obtain ⟨N, hNN⟩ : ∃ N, N = O.length := ⟨_, rfl⟩
  rw [← hNN] at hN HGR ⊢
  have hmk := run_make_row' (P := Try.prog) 22 3 (.int .i64 0) 8 Try.underlying22 infoInt rfl .i64 .i64 N (by omega) (by omega)
  have HO := Lib.hid hO
  have HNN := Lib.hid hNN
  have i4 : (0 : Int) ≤ (N : Int) := by omega
  clear hO
  go_enter Try.func56, Try.ntmps56
  go_wp2_with fail
  refine (HAL.out _).mono ?_
  rintro e w1 ⟨A0, c0, M0, S0, rfl, o0, hb0⟩
  rw [← hNN]
  have HBA := Lib.hid o0.blkLtC
  have HA0 : Hid (OII w1 w.heap.size w1.heap.size A0 N c0 O S0) := Lib.hid (by rw [HNN.out]; exact o0.top)
  have HB0 := Lib.hid hb0
  clear o0 hb0 hNN
  go_wp2
  obtain ⟨g, hg⟩ : ∃ b, b = w1.heap.size := ⟨_, rfl⟩
  obtain ⟨w2, hw2⟩ : ∃ v : World, v = w1.alloc (.cells (madeCells #[.int .i64 0] N) 3) := ⟨_, rfl⟩
  have R0 : Hid (w2.rowIs g 3 N (fun _ => .int .i64 0)) := Lib.hid (by rw [hw2, hg]; exact World.rowIs_made w1 (.int .i64 0) N 3)
  have B1 : Hid (Below g w1 w2) := Lib.hid (by rw [hg, hw2]; exact (Below.refl _ _).alloc (Nat.le_refl _) _)
  have HS2 : Hid (w2.heap.size = g + 1) := Lib.hid (by rw [hw2, hg]; simp)
  rw [← hg] at HA0 HBA
  replace HA0 : Hid (OII w2 w.heap.size g A0 N c0 O S0) := Lib.hid (by rw [hw2]; exact HA0.out.alloc _)
  have HB1 := Lib.hid (HB0.out.trans (B1.out.mono (by rw [hg]; exact HB0.out.size)))
  have HWG : Hid (w.heap.size ≤ g) := Lib.hid (by rw [hg]; exact HB0.out.size)
  rw [← hg, ← hw2]
  clear hg hw2 hmk B1
  go_loopw [5, 19] (fun _ i wr => ∃ (t : Nat), t ≤ N ∧ i = .int .i64 (t : Int) ∧ wr.rowIs g 3 N (fun i => if i < t then .int .i64 (-1) else .int .i64 0) ∧ wr.heap.size = g + 1 ∧ OII wr w.heap.size g A0 N c0 O S0 ∧ Below w.heap.size w wr) (fun _ i _ => N - (intOf i).toNat)
  case atStart => exact ⟨0, Nat.zero_le _, by go_num, R0.out.congr (fun i _ => by simp), HS2.out, HA0.out, HB1.out⟩
  case round =>
    obtain ⟨t, ht, rfl, hr, hz, hA, hb⟩ := hrel
    have HR := Lib.hid hr
    have HZ := Lib.hid hz
    have HA := Lib.hid hA
    have HB := Lib.hid hb
    clear hA hb hz
    by_cases hlt : t < N
    · have d0 := hr.cell hlt
      have df := hr.frozen t
      have t0 : (0 : Int) ≤ (t : Int) := by omega
      have t1 : (t : Int) < (N : Int) := by omega
      have hgr : g < wr.heap.size := by have := HZ.out; omega
      clear hr
      go_wp2
      go_roundw
      case rel =>
        refine ⟨t + 1, by omega, by go_num, (HR.out.set t _).congr (fun i hi => ?_), by have := HZ.out; simpa [World.setCell] using this, HA.out.setA (Nat.le_refl _) HBA.out (p := ⟨g, t, none⟩) (Nat.le_refl _) _, HB.out.setCell (by have := HWG.out; exact this) _⟩
        by_cases e : i = t
        · subst e; simp
        · by_cases e2 : i < t
          · rw [if_neg e, if_pos e2, if_pos (by omega)]
          · rw [if_neg e, if_neg e2, if_neg (by omega)]
      case measure => simp [intOf]; omega
    · obtain rfl : t = N := by omega
      have hr1 := hr.congr (g := fun _ => .int .i64 (-1)) (fun i hi => by rw [if_pos hi])
      have d0 := hr1.cell (show 0 < t by omega)
      have df := hr1.frozen 0
      have t1 : (0 : Int) < (t : Int) := by omega
      have hgr : g < wr.heap.size := by have := HZ.out; omega
      have HR1 := Lib.hid hr1
      clear hr hr1
      go_wp2_with fail
      obtain ⟨w3, hw3⟩ : ∃ v : World, v = (wr.setCell ⟨g, 0, none⟩ (.int .i64 0)).alloc (.cells #[.int .i64 0] 3) := ⟨_, rfl⟩
      have HS3 : Hid (w3.heap.size = g + 2) := Lib.hid (by rw [hw3]; have := HZ.out; simp [World.setCell, this])
      have HR3 : Hid (w3.rowIs g 3 t (fun i => .int .i64 (if i = 0 then 0 else -1))) := Lib.hid (by
        rw [hw3]
        exact ((HR1.out.set 0 _).alloc _).congr (fun i _ => by by_cases e : i = 0 <;> simp [e]))
      have HA3 : Hid (OII w3 w.heap.size g A0 t c0 O S0) := Lib.hid (by rw [hw3]; exact (HA.out.setA (Nat.le_refl _) HBA.out (p := ⟨g, 0, none⟩) (Nat.le_refl _) _).alloc _)
      have HQ3 : Hid (OI w3 (g + 1) (some ⟨wr.heap.size, 0, none⟩) 1 1 [0]) := Lib.hid (by
        rw [hw3]
        have := OI.oneC (wr.setCell ⟨g, 0, none⟩ (.int .i64 0)) (g + 1) 0 (by have := HZ.out; simp [World.setCell, this])
        simpa [World.setCell] using this)
      have HB3 : Hid (Below w.heap.size w w3) := Lib.hid (by rw [hw3]; exact (HB.out.setCell (by have := HWG.out; exact this) _).alloc (by have := HZ.out; have := HWG.out; simp [World.setCell]; omega) _)
      have hbq0 : wr.heap.size < g + 2 := by have := HZ.out; omega
      have HQB : Hid (∀ b, blk (some (⟨wr.heap.size, 0, none⟩ : Addr)) = some b → b < g + 2) := Lib.hid (fun b hb => by have : wr.heap.size = b := Option.some.inj hb; omega)
      rw [← hw3]
      clear hw3 hgr
      refine (HLV.out _).mono ?_
      rintro e w4 ⟨AL, cL, ML, SL, rfl, oL, hb4⟩
      have HLB := Lib.hid oL.blkLtC
      have hlvn : LV n = lvK n n 0 := rfl
      rw [← hlvn] at oL ⊢
      obtain ⟨K3, hK3⟩ : ∃ K, K = w4.heap.size := ⟨_, rfl⟩
      have HL4 : Hid (OII w4 (g + 2) K3 AL (LV n).length cL (LV n) SL) := Lib.hid (by rw [hK3, ← HS3.out]; exact oL.top)
      rw [← hK3] at HLB
      have HK3 := Lib.hid (Nat.le_of_eq hK3)
      have HG3 : Hid (g + 2 ≤ K3) := Lib.hid (by rw [hK3, ← HS3.out]; exact hb4.size)
      have HR4 := rowStep HR3 hb4
      have HA4 := Lib.hid (HA3.out.below hb4)
      have HQ4 := Lib.hid (HQ3.out.below hb4)
      have HB4 := Lib.hid (HB3.out.trans (hb4.mono HB3.out.size))
      have hLl := HLL.out
      clear oL hb4 hlvn hK3
      have S0B := Lib.hid (Bfs.start n top (fun _ => 0) rfl)
      have F0 : Hid (∀ i, i < t → farV n [upto n] (fun _ => 0) i = if i = 0 then 0 else -1) := Lib.hid (fun i hi => by
        have hho := rk_home6 h2 h6
        have huo : OKp n (upto n) := upto_ok (by omega) (by omega)
        by_cases e : i = 0
        · rw [if_pos e, e]
          have := farV_yes (Q := [upto n]) (d := fun _ => 0) h2 h6 huo (by simp)
          rw [hho] at this
          exact this
        · rw [if_neg e]
          unfold farV
          rw [if_neg]
          intro hm
          have h3 := List.mem_singleton.1 hm
          have h4 := rk_gz6 h2 h6 (i := i) (by rw [← HO.out, ← HNN.out]; exact hi)
          rw [h3, hho] at h4
          exact e h4.symm)
      go_wp2
      go_loopw [6, 8] (fun s6 s8 wr => ∃ (k : Nat) (Q : List (List Int)) (d : List Int → Nat) (Aq : Option Addr) (cq : Nat), s8 = .int .i64 (k : Int) ∧ s6 = .slice Aq Q.length cq ∧ Bfs n top Q d k 0 ∧ wr.rowIs g 3 t (fun i => .int .i64 (farV n Q d i)) ∧ OII wr w.heap.size g A0 t c0 O S0 ∧ OI wr (g + 1) Aq Q.length cq (Q.map fun q => (rk q : Int)) ∧ (∀ b, blk Aq = some b → b < g + 2 ∨ K3 ≤ b) ∧ OII wr (g + 2) K3 AL (LV n).length cL (LV n) SL ∧ K3 ≤ wr.heap.size ∧ Below w.heap.size w wr) (fun _ i _ => 46657 - (intOf i).toNat)
      case atStart => exact ⟨0, [upto n], fun _ => 0, _, 1, rfl, rfl, S0B.out, HR4.out.congr (fun i hi => by rw [F0.out i hi]), HA4.out, by simpa [rk_home6 h2 h6] using HQ4.out, fun b hb => .inl (HQB.out b hb), HL4.out, HK3.out, HB4.out⟩
      case round =>
        obtain ⟨k, Q, d, Aq, cq, rfl, rfl, hbf, hr, hA, hq, hqb, hL, hz, hb⟩ := hrel
        obtain ⟨wo, hwo⟩ : ∃ wo, wo = wr := ⟨_, rfl⟩
        subst hwo
        have BF := Lib.hid hbf
        have HRr := Lib.hid hr
        have HAr := Lib.hid hA
        have HQr := Lib.hid hq
        have HQBr := Lib.hid hqb
        have HLr := Lib.hid hL
        have HZr := Lib.hid hz
        have HBr := Lib.hid hb
        have hQl := hbf.small h2 h6
        have hkle := hbf.kle
        clear hbf hr hA hq hqb hL hz hb
        by_cases hk : k < Q.length
        · have k1 : (k : Int) < (Q.length : Int) := by omega
          go_wp2
          go_loopw [6, 10, 11, 39] (fun s6 _ _ s39 wi => ∃ (j : Nat) (Q : List (List Int)) (d : List Int → Nat) (Aq : Option Addr) (cq : Nat), s39 = .int .i64 (j : Int) ∧ j ≤ (LV n).length ∧ s6 = .slice Aq Q.length cq ∧ k < Q.length ∧ Bfs n top Q d k j ∧ wi.rowIs g 3 t (fun i => .int .i64 (farV n Q d i)) ∧ OII wi w.heap.size g A0 t c0 O S0 ∧ OI wi (g + 1) Aq Q.length cq (Q.map fun q => (rk q : Int)) ∧ (∀ b, blk Aq = some b → b < g + 2 ∨ K3 ≤ b) ∧ OII wi (g + 2) K3 AL (LV n).length cL (LV n) SL ∧ K3 ≤ wi.heap.size ∧ Below w.heap.size w wi) (fun _ _ _ i _ => (LV n).length - (intOf i).toNat)
          case atStart => exact ⟨0, Q, d, Aq, cq, by go_num, Nat.zero_le _, rfl, hk, BF.out, HRr.out, HAr.out, HQr.out, HQBr.out, HLr.out, HZr.out, HBr.out⟩
          case round =>
            clear hQl hkle k1 hk
            obtain ⟨j, Q, d, Aq, cq, rfl, hj, rfl, hk, hbf, hr, hA, hq, hqb, hL, hz, hb⟩ := hrel
            have BF := Lib.hid hbf
            have HRr := Lib.hid hr
            have HAr := Lib.hid hA
            have HQr := Lib.hid hq
            have HQBr := Lib.hid hqb
            have HLr := Lib.hid hL
            have HZr := Lib.hid hz
            have HBr := Lib.hid hb
            have hQl := hbf.small h2 h6
            have k1 : (k : Int) < (Q.length : Int) := by omega
            have k0 : (0 : Int) ≤ (k : Int) := by omega
            by_cases hjl : j < (LV n).length
            · have j1 : (j : Int) < ((LV n).length : Int) := by omega
              have j0 : (0 : Int) ≤ (j : Int) := by omega
              have hl : gz (LV n) j ∈ LV n := mem_gz.2 ⟨j, hjl, rfl⟩
              have HLM := Lib.hid (LV_mem hl)
              obtain ⟨gl, la, lm, ld, rfl, hgl, _, _, hcl, hol⟩ := hL.row hjl
              have hqm : gz Q k ∈ Q := mem_gz.2 ⟨k, hk, rfl⟩
              have hqo : OKp n (gz Q k) := hbf.ok h2 h6 _ hqm
              have HQO := Lib.hid hqo
              obtain ⟨hrk, hgo⟩ := HGR.out _ hqo
              obtain ⟨bq, offq, rfl, hbq, hcq⟩ := hq.ri.cell hk
              have hcqk := hcq k hk
              have hgiq : gi (Q.map fun q => (rk q : Int)) k = (rk (gz Q k) : Int) := by
                rw [gi_lt (by rw [List.length_map]; exact hk)]
                simp [gz, List.getD, hk]
              rw [hgiq] at hcqk
              obtain ⟨q, hqd⟩ : ∃ q, q = gz Q k := ⟨_, rfl⟩
              obtain ⟨l, hld⟩ : ∃ l, l = gz (LV n) j := ⟨_, rfl⟩
              have HQD := Lib.hid hqd
              have HLD := Lib.hid hld
              rw [← hqd] at hcqk HQO hrk hgo hqm
              rw [← hld] at HLM hol hl
              obtain ⟨rq, hrq⟩ : ∃ r, r = rk q := ⟨_, rfl⟩
              have HRQ := Lib.hid hrq
              rw [← hrq] at hcqk hrk hgo
              obtain ⟨g0, ra, rm, rd, rfl, hg0, _, _, hc0, ho0⟩ := hA.row hrk
              rw [hgo] at ho0
              have hrm : rm = n := by rw [← ho0.1]; exact HQO.out.2
              subst hrm
              have hrd := ho0.le
              have HRI := Lib.hid ho0.ri
              have HLI := Lib.hid hol.ri
              have hlm : lm ≤ 1048576 := by rw [← hol.1]; have := lvK_row rm rm 0 l hl; omega
              have r0 : (0 : Int) ≤ (rq : Int) := by omega
              have r1 : (rq : Int) < (t : Int) := by omega
              have HTOP := Lib.hid (fun w2 (e1 : RI w2 ra rm q) (e2 : RI w2 la lm l) => lvTop_any ra rm rd q la lm ld l w2 e1 hrd (by omega) e2 hlm HLM.out)
              have HQL := Lib.hid hl
              clear hbf hr hA hq hqb hL hz hb hol hqo hcq hgiq hqd hld hrq hgo ho0 hqm hl
              go_wp2_with fail
              refine (HTOP.out _ HRI.out HLI.out).mono ?_
              rintro e w5 ⟨A5, c5, rfl, r5, hc5, hb5⟩
              have HR5 := rowStep HRr hb5
              have HA5 := Lib.hid (HAr.out.below hb5)
              have HQ5 := Lib.hid (HQr.out.below hb5)
              have HL5 := Lib.hid (HLr.out.below hb5)
              have HZ5 := Lib.hid (Nat.le_trans HZr.out hb5.size)
              have HB5 := Lib.hid (HBr.out.trans (hb5.mono HBr.out.size))
              have hcq5 := (hb5.cell (p := ⟨bq, offq + k, none⟩) hbq).trans hcqk
              have hbq5 : bq < w5.heap.size := Nat.lt_of_lt_of_le hbq hb5.size
              have hxo : OKp rm (top q l) := top_ok l HQO.out HLM.out
              have HXD : Hid (top (gz Q k) (gz (LV rm) j) = top q l) := by rw [← HQD.out, ← HLD.out]; exact Lib.hid rfl
              obtain ⟨x, hx⟩ : ∃ x, x = top q l := ⟨_, rfl⟩
              rw [← hx] at hxo r5 HXD
              have HXO := Lib.hid hxo
              obtain ⟨hrx, hgx⟩ := HGR.out _ hxo
              have HRX5 := Lib.hid r5
              clear hcqk hbq HTOP hgx hx hb5 r5
              go_wp2_with fail
              refine (alRank_any A5 rm c5 x _ HRX5.out h6 hc5).mono ?_
              rintro e w6 ⟨rfl, rfl⟩
              obtain ⟨rx, hrxd⟩ : ∃ r, r = rk x := ⟨_, rfl⟩
              have HRXD := Lib.hid hrxd
              rw [← hrxd] at hrx ⊢
              have x0 : (0 : Int) ≤ (rx : Int) := by omega
              have x1 : (rx : Int) < (t : Int) := by omega
              have q1 : (rq : Int) < (t : Int) := by omega
              have dx := HR5.out.cell hrx
              have dq := HR5.out.cell hrk
              have fx := HR5.out.frozen rx
              have hgz : g < w6.heap.size := by have := HZ5.out; have := HG3.out; omega
              have hdq : farV rm Q d rq = (d q : Int) := by rw [HRQ.out]; exact farV_yes h2 h6 HQO.out (mem_gz.2 ⟨k, hk, HQD.out⟩)
              have hdl : d q < Q.length := BF.out.lt q (mem_gz.2 ⟨k, hk, HQD.out⟩)
              rw [hdq] at dq
              obtain ⟨v, hv⟩ : ∃ v, v = d q := ⟨_, rfl⟩
              rw [← hv] at dq hdl
              have HV := Lib.hid hv
              clear hdq hrxd hxo hv
              by_cases hxq : x ∈ Q
              · have hfx : farV rm Q d rx = (d x : Int) := by rw [HRXD.out]; exact farV_yes h2 h6 HXO.out hxq
                rw [hfx] at dx
                have HXQ := Lib.hid hxq
                have hn0 : ¬ (d x : Int) < 0 := by omega
                clear hfx hxq
                go_wp2
                go_roundw
                case rel => exact ⟨j + 1, Q, d, _, cq, by go_num, hjl, rfl, hk, BF.out.known hk (by rw [HXD.out]; exact HXQ.out), HR5.out, HA5.out, HQ5.out, HQBr.out, HL5.out, HZ5.out, HB5.out⟩
                case measure => simp [intOf]; omega
              · have hfx : farV rm Q d rx = -1 := by rw [HRXD.out]; exact farV_no h2 h6 HXO.out hxq
                rw [hfx] at dx
                have HXQ := Lib.hid hxq
                have HNEW := Lib.hid (BF.out.new (steps_top rm) hk hjl (by rw [HXD.out]; exact hxq))
                rw [HXD.out, ← HQD.out, ← HV.out] at HNEW
                have hz6 : K3 ≤ w6.heap.size := HZ5.out
                have hg3 := HG3.out
                have hv1 : v + 1 ≤ 46657 := by omega
                obtain ⟨w7, hw7⟩ : ∃ y : World, y = (w6.setCell ⟨g, rx, none⟩ (.int .i64 ((v : Int) + 1))).alloc (.cells #[.int .i64 (rx : Int)] 3) := ⟨_, rfl⟩
                have HS7 : Hid (w7.heap.size = w6.heap.size + 1) := Lib.hid (by rw [hw7]; simp [World.setCell])
                have HQ7 : Hid (OI w7 (g + 1) (some ⟨bq, offq, none⟩) Q.length cq (Q.map fun q => (rk q : Int))) := Lib.hid (by rw [hw7]; exact (HQ5.out.setBelow (by simp) _).alloc _)
                have HA7 : Hid (OII w7 w.heap.size g (some ⟨g0, 0, none⟩) t c0 O S0) := Lib.hid (by rw [hw7]; exact (HA5.out.setA (Nat.le_refl _) HBA.out (p := ⟨g, rx, none⟩) (Nat.le_refl _) _).alloc _)
                have HL7 : Hid (OII w7 (g + 2) K3 (some ⟨gl, 0, none⟩) (LV rm).length cL (LV rm) SL) := Lib.hid (by rw [hw7]; exact (HL5.out.setB (by simp) _).alloc _)
                have HR7 : Hid (w7.rowIs g 3 t (fun i => .int .i64 (farV rm (Q ++ [x]) (upd d x (v + 1)) i))) := Lib.hid (by
                  rw [hw7]
                  refine ((HR5.out.set rx _).alloc _).congr (fun i hi => ?_)
                  rw [farV_new h2 h6 HXO.out (v + 1) HXQ.out (by rw [← HO.out, ← HNN.out]; exact hi), ← HRXD.out]
                  by_cases e : i = rx
                  · rw [if_pos e, if_pos e]; push_cast; rfl
                  · rw [if_neg e, if_neg e])
                have HB7 : Hid (Below w.heap.size w w7) := Lib.hid (by rw [hw7]; exact (HB5.out.setCell (by have := HWG.out; exact this) _).alloc (by have := HWG.out; simp [World.setCell]; omega) _)
                have HC7 : Hid (w7.cell? ⟨w6.heap.size, 0, none⟩ = some (.int .i64 (rx : Int))) := Lib.hid (by rw [hw7]; exact cellNewAt _ _ _ (by simp [World.setCell]))
                have HW7 := Lib.hid hw7
                have HMAP : Hid ((Q ++ [x]).map (fun q => (rk q : Int)) = (Q.map fun q => (rk q : Int)) ++ [(rx : Int)]) := Lib.hid (by rw [List.map_append, HRXD.out]; rfl)
                have HLEN : Hid ((Q ++ [x]).length = Q.length + 1) := Lib.hid (by simp)
                clear hfx hxq hw7
                go_wp2_with (at_builtin; first | (rw [← HW7.out]; refine wpList_append_intL _ rfl _ _ rfl (g + 1) (some ⟨bq, offq, none⟩) Q.length cq _ (rx : Int) w6.heap.size rfl rfl HQ7.out HC7.out (by omega) (by have := HS7.out; omega) ?_; intro A8 c8 w8 ho8 hg8 hl8; have HQ8 := Lib.hid ho8; have hbm := ofMark HQ7.out hg8 (Nat.le_refl _) (by have := HS7.out; omega); have HR8 := Lib.hid (rowBelow HR7.out hbm (by omega)); have HA8 := Lib.hid (HA7.out.far (Nat.le_refl _) HBA.out hg8 (fun b hb => .inr (by have := (HQ7.out.blk b hb).1; omega))); have HL8 := Lib.hid (HL7.out.far (Nat.le_refl _) HLB.out hg8 HQBr.out); have HB8 := Lib.hid (HB7.out.trans (hbm.mono (by have := HWG.out; omega))); have HZ8 := Lib.hid (show K3 ≤ w8.heap.size by have := hg8.size; have := HS7.out; omega); have HQB8 : Hid (∀ b, blk A8 = some b → b < g + 2 ∨ K3 ≤ b) := Lib.hid (fun b hb => by
                    rcases hl8 with h | h
                    · exact HQBr.out b (h ▸ hb)
                    · right; rw [h] at hb; have := Option.some.inj hb; have := HS7.out; omega); clear ho8 hg8 hl8 hbm))
                go_roundw
                case rel => exact ⟨j + 1, Q ++ [x], upd d x (v + 1), A8, c8, by go_num, hjl, by rw [HLEN.out], by rw [HLEN.out]; omega, HNEW.out, HR8.out, HA8.out, by rw [HMAP.out, HLEN.out]; exact HQ8.out, HQB8.out, HL8.out, HZ8.out, HB8.out⟩
                case measure => simp [intOf]; omega
            · have hjj : (LV n).length ≤ j := by omega
              have BF2 := Lib.hid (hbf.next hk hjj)
              have j1 : ¬ (j : Int) < ((LV n).length : Int) := by omega
              clear hbf hr hA hq hqb hL hz hb
              go_wp2
              go_roundw
              case rel => exact ⟨k + 1, Q, d, Aq, cq, by go_num, rfl, BF2.out, HRr.out, HAr.out, HQr.out, HQBr.out, HLr.out, HZr.out, HBr.out⟩
              case measure => simp [intOf]; omega
        · obtain rfl : k = Q.length := by omega
          have HF := Lib.hid (fun p (hp : OKp n p) => BF.out.fin (walks_top n) h2 h6 hp)
          have HT : Hid (∀ i, i < t → farV n Q d i = gi (farL n) i) := Lib.hid (fun i hi => by
            have hi2 : i < (ordsK n n).length := by rw [← HO.out, ← HNN.out]; exact hi
            have hok : OKp n (gz (ordsK n n) i) := ((ordsK_all (by omega) (by omega)).mem _).1 (mem_gz.2 ⟨i, hi2, rfl⟩)
            obtain ⟨h3, h4⟩ := HF.out _ hok
            rw [gi_farL hi2]
            unfold farV
            rw [if_pos h3, h4])
          go_wp2
          go_ret
          refine ⟨_, t, rfl, ⟨by rw [farL_len, ← HO.out, ← HNN.out], fun _ => ⟨g, 0, rfl, by have := HZr.out; have := HG3.out; omega, fun i hi => ?_⟩⟩, HBr.out⟩
          rw [Nat.zero_add, HRr.out.cell hi, HT.out i hi]
end Go.Proofs.Ytnhhbpogjhcibaa
