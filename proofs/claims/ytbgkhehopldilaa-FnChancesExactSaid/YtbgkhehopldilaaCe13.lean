/- GapOf, of the program and of its model. -/
import Derived.Test.YtbgkhehopldilaaCe12
namespace Go.Proofs.Ytbgkhehopldilaa
open Go Go.RowKit

/-- the greatest of m and the numbers in P -/
structure Top (P : Int → Prop) (m v : Int) : Prop where
  lo : m ≤ v
  up : ∀ d, P d → d ≤ v
  at_ : v = m ∨ P v
theorem Top.uniq {P : Int → Prop} {m v u : Int} (h : Top P m v) (g : Top P m u) : v = u := by
  have h1 : v ≤ u := by
    rcases h.at_ with e | e
    · rw [e]; exact g.lo
    · exact g.up v e
  have h2 : u ≤ v := by
    rcases g.at_ with e | e
    · rw [e]; exact h.lo
    · exact h.up u e
  omega
theorem Top.more {P Q : Int → Prop} {m v x : Int} (h : Top P m v) (hq : ∀ d, Q d → P d ∨ d ≤ x) (hp : ∀ d, P d → Q d) (hx : Q x) : Top Q m (max v x) := by
  refine ⟨by have := h.lo; omega, fun d hd => ?_, ?_⟩
  · rcases hq d hd with h1 | h1
    · have := h.up d h1; omega
    · omega
  · rcases Int.le_total v x with h1 | h1
    · rw [show max v x = x by omega]; exact .inr hx
    · rw [show max v x = v by omega]
      rcases h.at_ with e | e
      · exact .inl e
      · exact .inr (hp _ e)
theorem Top.same {P Q : Int → Prop} {m v : Int} (h : Top P m v) (hpq : ∀ d, P d ↔ Q d) : Top Q m v :=
  ⟨h.lo, fun d hd => h.up d ((hpq d).2 hd), h.at_.imp id fun e => (hpq v).1 e⟩

/-- differences of two chances of one of the first j starts -/
def Dif (n K j : Nat) (d : Int) : Prop := ∃ s x y : Nat, s < j ∧ x < n ∧ y < n ∧ d = gi (endsC n K (s : Int)) x - gi (endsC n K (s : Int)) y
/-- and of the next start's, up to the wire y behind x -/
def DifP (n K j x0 y0 : Nat) (d : Int) : Prop := Dif n K j d ∨ ∃ x y : Nat, (x < x0 ∨ x = x0 ∧ y < y0) ∧ x < n ∧ y < n ∧ d = gi (endsC n K (j : Int)) x - gi (endsC n K (j : Int)) y
theorem Dif.none (n K : Nat) : Top (Dif n K 0) 0 0 := ⟨by omega, fun d ⟨s, _, _, h, _⟩ => absurd h (by omega), .inl rfl⟩
theorem DifP.start {n K j : Nat} {v : Int} (h : Top (Dif n K j) 0 v) : Top (DifP n K j 0 0) 0 v :=
  h.same fun d => ⟨.inl, fun e => by
    rcases e with e | ⟨x, y, hxy, _⟩
    · exact e
    · omega⟩
theorem DifP.step {n K j x y : Nat} {v : Int} (h : Top (DifP n K j x y) 0 v) (hx : x < n) (hy : y < n) : Top (DifP n K j x (y + 1)) 0 (max v (gi (endsC n K (j : Int)) x - gi (endsC n K (j : Int)) y)) := by
  refine h.more (fun d hd => ?_) (fun d hd => ?_) (.inr ⟨x, y, .inr ⟨rfl, by omega⟩, hx, hy, rfl⟩)
  · rcases hd with e | ⟨a, b, hab, ha, hb, e⟩
    · exact .inl (.inl e)
    · by_cases h1 : a = x ∧ b = y
      · obtain ⟨rfl, rfl⟩ := h1
        exact .inr (by omega)
      · exact .inl (.inr ⟨a, b, by omega, ha, hb, e⟩)
  · rcases hd with e | ⟨a, b, hab, ha, hb, e⟩
    · exact .inl e
    · exact .inr ⟨a, b, by omega, ha, hb, e⟩
theorem DifP.next {n K j x : Nat} {v : Int} (h : Top (DifP n K j x n) 0 v) : Top (DifP n K j (x + 1) 0) 0 v :=
  h.same fun d => by
    constructor
    · rintro (e | ⟨a, b, hab, ha, hb, e⟩)
      · exact .inl e
      · exact .inr ⟨a, b, by omega, ha, hb, e⟩
    · rintro (e | ⟨a, b, hab, ha, hb, e⟩)
      · exact .inl e
      · exact .inr ⟨a, b, by omega, ha, hb, e⟩
theorem DifP.done {n K j : Nat} {v : Int} (h : Top (DifP n K j n 0) 0 v) : Top (Dif n K (j + 1)) 0 v :=
  h.same fun d => by
    constructor
    · rintro (⟨s, x, y, hs, hx, hy, e⟩ | ⟨a, b, hab, ha, hb, e⟩)
      · exact ⟨s, x, y, by omega, hx, hy, e⟩
      · exact ⟨j, a, b, by omega, ha, hb, e⟩
    · rintro ⟨s, x, y, hs, hx, hy, e⟩
      by_cases h1 : s = j
      · subst h1; exact .inr ⟨x, y, by omega, hx, hy, e⟩
      · exact .inl ⟨s, x, y, by omega, hx, hy, e⟩
theorem Dif.whole {n K j x0 y0 : Nat} {v : Int} (h : Top (Dif n K j) 0 v) (hx : x0 < n) (hy : y0 < n) (hmx : ∀ x, x < n → gi (endsC n K (j : Int)) x ≤ gi (endsC n K (j : Int)) x0) (hmn : ∀ y, y < n → gi (endsC n K (j : Int)) y0 ≤ gi (endsC n K (j : Int)) y) :
    Top (Dif n K (j + 1)) 0 (max v (gi (endsC n K (j : Int)) x0 - gi (endsC n K (j : Int)) y0)) := by
  refine h.more (fun d hd => ?_) (fun d hd => ?_) ⟨j, x0, y0, by omega, hx, hy, rfl⟩
  · obtain ⟨s, x, y, hs, hxn, hyn, e⟩ := hd
    by_cases h1 : s = j
    · subst h1
      right
      have := hmx x hxn
      have := hmn y hyn
      omega
    · exact .inl ⟨s, x, y, by omega, hxn, hyn, e⟩
  · obtain ⟨s, x, y, hs, hxn, hyn, e⟩ := hd
    exact ⟨s, x, y, by omega, hxn, hyn, e⟩
theorem DifP.small {n K j x y : Nat} {v : Int} (h : Top (DifP n K j x y) 0 v) (hn : n ≤ 6) (hK : K ≤ 20) : 0 ≤ v ∧ v ≤ 95367431640625 := by
  refine ⟨h.lo, ?_⟩
  rcases h.at_ with e | e
  · omega
  · rcases e with ⟨s, x, y, hs, hx, hy, e⟩ | ⟨a, b, hab, ha, hb, e⟩
    · have h1 := endsC_in (n := n) (k := K) (s := (s : Int)) hx hn hK
      have h2 := endsC_in (n := n) (k := K) (s := (s : Int)) hy hn hK
      omega
    · have h1 := endsC_in (n := n) (k := K) (s := (j : Int)) ha hn hK
      have h2 := endsC_in (n := n) (k := K) (s := (j : Int)) hb hn hK
      omega
theorem Dif.small {n K j : Nat} {v : Int} (h : Top (Dif n K j) 0 v) (hn : n ≤ 6) (hK : K ≤ 20) : 0 ≤ v ∧ v ≤ 95367431640625 := DifP.small (DifP.start h) hn hK
/-- the greatest difference there is -/
noncomputable def gapN (n K : Nat) : Nat := open Classical in if h : ∃ g : Nat, Top (Dif n K n) 0 (g : Int) then Classical.choose h else 0
theorem gapN_of {n K g : Nat} (h : Top (Dif n K n) 0 (g : Int)) : g = gapN n K := by
  have hx : ∃ g : Nat, Top (Dif n K n) 0 (g : Int) := ⟨g, h⟩
  unfold gapN
  rw [dif_pos hx]
  have := (Classical.choose_spec hx).uniq h
  omega
noncomputable def gpA (n k : Int) : Int := if fallB n k = true then rtA (gapN n.toNat k.toNat) n k else 0
noncomputable def gpB (n k : Int) : Int := if fallB n k = true then rtB (gapN n.toNat k.toNat) n k else 0
theorem gpA_no {n k : Int} (h : fallB n k = false) : gpA n k = 0 := by unfold gpA; rw [h]; rfl
theorem gpB_no {n k : Int} (h : fallB n k = false) : gpB n k = 0 := by unfold gpB; rw [h]; rfl
theorem gpA_yes {n k : Int} (h : fallB n k = true) : gpA n k = rtA (gapN n.toNat k.toNat) n k := by unfold gpA; rw [if_pos h]
theorem gpB_yes {n k : Int} (h : fallB n k = true) : gpB n k = rtB (gapN n.toNat k.toNat) n k := by unfold gpB; rw [if_pos h]

/-- one of a list that is the greatest, or the least -/
def MaxPost (zs : List Int) (w : World) (e : Ending) (w' : World) : Prop := ∃ j, e = .returned (.int .i64 (gi zs j)) ∧ j < zs.length ∧ (∀ i, i < zs.length → gi zs i ≤ gi zs j) ∧ w = w'
def MinPost (zs : List Int) (w : World) (e : Ending) (w' : World) : Prop := ∃ j, e = .returned (.int .i64 (gi zs j)) ∧ j < zs.length ∧ (∀ i, i < zs.length → gi zs j ≤ gi zs i) ∧ w = w'

set_option maxRecDepth 100000 in
set_option maxHeartbeats 1000000 in
theorem Max_any (A : Option Addr) (n c : Nat) (zs : List Int) (w : World) (h : RI w A n zs) (h0 : 0 < n) (hn : n ≤ 1000000) : Calls Try.prog 29 #[.slice A n c] w (MaxPost zs w) := by
  have hl := h.1
  obtain ⟨b, off, rfl, hbw, hc⟩ := h.cell h0
  have HC := Lib.hid hc
  have c0 := hc 0 h0
  rw [Nat.add_zero] at c0
  have hni : ¬ ((n : Int) < 1) := by omega
  clear hc
  go_enter Try.func29, Try.ntmps29
  go_wp2
  go_loop [3, 4] (fun s t => ∃ j t' : Nat, 1 ≤ t' ∧ t' ≤ n ∧ j < t' ∧ t = .int .i64 (t' : Int) ∧ s = .int .i64 (gi zs j) ∧ ∀ i, i < t' → gi zs i ≤ gi zs j) (fun _ t => n - (intOf t).toNat)
  case atStart => exact ⟨0, 1, by omega, by omega, by omega, rfl, rfl, fun i hi => by rw [show i = 0 by omega]; exact Int.le_refl _⟩
  case round =>
    obtain ⟨j, t, ht1, htn, hj, rfl, rfl, hall⟩ := hrel
    have HA := Lib.hid hall
    clear hall
    by_cases hlt : t < n
    · have ct := HC.out t hlt
      by_cases hcmp : gi zs t ≤ gi zs j
      · have hmx : max (gi zs j) (gi zs t) = gi zs j := by omega
        have HCM := Lib.hid hcmp
        clear hcmp
        go_wp2
        go_round
        case rel => exact ⟨j, t + 1, by omega, by omega, by omega, by go_num, by first | rfl | (rw [if_pos HCM.out]) | (rw [if_neg (by have := HCM.out; omega)]), fun i hi => by
                      by_cases e : i = t
                      · rw [e]; exact HCM.out
                      · exact HA.out i (by omega)⟩
        case measure => simp [intOf]; omega
      · have hmx : max (gi zs j) (gi zs t) = gi zs t := by omega
        have HCM : Hid (gi zs j < gi zs t) := Lib.hid (by omega)
        clear hcmp
        go_wp2
        go_round
        case rel => exact ⟨t, t + 1, by omega, by omega, by omega, by go_num, by first | rfl | (rw [if_pos HCM.out]) | (rw [if_neg (by have := HCM.out; omega)]), fun i hi => by
                      by_cases e : i = t
                      · rw [e]; exact Int.le_refl _
                      · have h1 := HA.out i (by omega)
                        have h2 := HCM.out
                        omega⟩
        case measure => simp [intOf]; omega
    · obtain rfl : t = n := by omega
      go_wp2
      go_ret
      exact ⟨j, rfl, by omega, fun i hi => HA.out i (by omega), rfl⟩

set_option maxRecDepth 100000 in
set_option maxHeartbeats 1000000 in
theorem Min_any (A : Option Addr) (n c : Nat) (zs : List Int) (w : World) (h : RI w A n zs) (h0 : 0 < n) (hn : n ≤ 1000000) : Calls Try.prog 30 #[.slice A n c] w (MinPost zs w) := by
  have hl := h.1
  obtain ⟨b, off, rfl, hbw, hc⟩ := h.cell h0
  have HC := Lib.hid hc
  have c0 := hc 0 h0
  rw [Nat.add_zero] at c0
  have hni : ¬ ((n : Int) < 1) := by omega
  clear hc
  go_enter Try.func30, Try.ntmps30
  go_wp2
  go_loop [3, 4] (fun s t => ∃ j t' : Nat, 1 ≤ t' ∧ t' ≤ n ∧ j < t' ∧ t = .int .i64 (t' : Int) ∧ s = .int .i64 (gi zs j) ∧ ∀ i, i < t' → gi zs j ≤ gi zs i) (fun _ t => n - (intOf t).toNat)
  case atStart => exact ⟨0, 1, by omega, by omega, by omega, rfl, rfl, fun i hi => by rw [show i = 0 by omega]; exact Int.le_refl _⟩
  case round =>
    obtain ⟨j, t, ht1, htn, hj, rfl, rfl, hall⟩ := hrel
    have HA := Lib.hid hall
    clear hall
    by_cases hlt : t < n
    · have ct := HC.out t hlt
      by_cases hcmp : gi zs j ≤ gi zs t
      · have hmx : min (gi zs j) (gi zs t) = gi zs j := by omega
        have HCM := Lib.hid hcmp
        clear hcmp
        go_wp2
        go_round
        case rel => exact ⟨j, t + 1, by omega, by omega, by omega, by go_num, by first | rfl | (rw [if_pos HCM.out]) | (rw [if_neg (by have := HCM.out; omega)]), fun i hi => by
                      by_cases e : i = t
                      · rw [e]; exact HCM.out
                      · exact HA.out i (by omega)⟩
        case measure => simp [intOf]; omega
      · have hmx : min (gi zs j) (gi zs t) = gi zs t := by omega
        have HCM : Hid (gi zs t < gi zs j) := Lib.hid (by omega)
        clear hcmp
        go_wp2
        go_round
        case rel => exact ⟨t, t + 1, by omega, by omega, by omega, by go_num, by first | rfl | (rw [if_pos HCM.out]) | (rw [if_neg (by have := HCM.out; omega)]), fun i hi => by
                      by_cases e : i = t
                      · rw [e]; exact Int.le_refl _
                      · have h1 := HA.out i (by omega)
                        have h2 := HCM.out
                        omega⟩
        case measure => simp [intOf]; omega
    · obtain rfl : t = n := by omega
      go_wp2
      go_ret
      exact ⟨j, rfl, by omega, fun i hi => HA.out i (by omega), rfl⟩

set_option maxRecDepth 100000 in
set_option maxHeartbeats 2000000 in
theorem sGapOf_any (n k : Int) (w : World) : Calls Try.prog 11 #[.int .i64 n, .int .i64 k] w (RetRB (gpA n k) (gpB n k) (fallB n k) w) := by
  rcases hq : fallB n k with _ | _
  · rw [gpA_no hq, gpB_no hq]
    have HF := Lib.hid hq
    clear hq
    go_enter Try.func11, Try.ntmps11
    go_wp2_with (go_at_call 23; refine (chGood_any _ _ _).mono ?_; rw [HF.out]; rintro e w2 ⟨rfl, rfl⟩)
    have HC := cellNew w (.int .i64 0) (.int .i64 0) 32
    have HB := belAlloc (belRefl (w := w)) (.cells #[.int .i64 0, .int .i64 0] 32)
    exact bodyPost_ret (v := .tuple #[.agg #[.int .i64 0, .int .i64 0], .bool false]) (by simp [results, Try.results11, go_sem]) rfl ⟨rfl, (by repeat (first | exact Below.refl _ _ | exact HB.out | refine Below.setCell ?_ (by simp <;> omega) _ | refine Below.alloc ?_ (by simp <;> omega) _ | refine below_drewN ?_ _))⟩
  · rw [gpA_yes hq, gpB_yes hq]
    have HF := Lib.hid hq
    obtain ⟨⟨h2, h6⟩, hk0, hk⟩ := fallB_iff.1 hq
    obtain ⟨N, rfl⟩ : ∃ N : Nat, n = (N : Int) := ⟨n.toNat, by omega⟩
    obtain ⟨K, rfl⟩ : ∃ K : Nat, k = (K : Int) := ⟨k.toNat, by omega⟩
    rw [Int.toNat_natCast, Int.toNat_natCast]
    clear hq
    have HRA := Lib.hid (fun (a : Nat) (ha : a ≤ 4000000000000000000) => chRatio_rt a HF.out ha)
    go_enter Try.func11, Try.ntmps11
    go_wp2_with (go_at_call 23; refine (chGood_any _ _ _).mono ?_; rw [HF.out]; rintro e w2 ⟨rfl, rfl⟩)
    have HC := cellNew w (.int .i64 0) (.int .i64 0) 32
    have HB := belAlloc (belRefl (w := w)) (.cells #[.int .i64 0, .int .i64 0] 32)
    go_loopw [6, 7] (fun s6 sj wr => ∃ (j a : Nat), j ≤ N ∧ sj = .int .i64 (j : Int) ∧ s6 = .int .i64 (a : Int) ∧ Top (Dif N K j) 0 (a : Int) ∧ Cell2 wr w.heap.size (.int .i64 0) (.int .i64 0) ∧ Below w.heap.size w wr) (fun _ sj _ => N - (intOf sj).toNat)
    case atStart => exact ⟨0, 0, Nat.zero_le _, rfl, rfl, Dif.none N K, HC.out, HB.out⟩
    case round =>
      obtain ⟨j, a, hj, rfl, rfl, ht, hc, hbl⟩ := hrel
      replace HC := Lib.hid hc
      replace HB := Lib.hid hbl
      have HT := Lib.hid ht
      have hal := Dif.small ht (by omega) (by omega)
      clear hc hbl ht
      by_cases hlt : (j : Int) < (N : Int)
      · have HCE := Lib.hid (chEnds_any N K j wr (by omega) (by omega) (by omega) (by omega))
        go_wp2_with fail
        refine HCE.out.mono ?_
        rintro e w1 ⟨g, rfl, ho, hb⟩
        have HO1 := Lib.hid ho
        have hgb := ho.blk g rfl
        replace HC := cellStep HC hb
        replace HB := belStep HB hb
        have HIN : Hid (∀ v, v < N → 0 ≤ gi (endsC N K (j : Int)) v ∧ gi (endsC N K (j : Int)) v ≤ 95367431640625) := Lib.hid fun v hv => endsC_in hv (by omega) (by omega)
        clear ho hb HCE hgb
        go_wp2
        go_loop [6, 29] (fun s6 sx => ∃ (x a' : Nat), x ≤ N ∧ sx = .int .i64 (x : Int) ∧ s6 = .int .i64 (a' : Int) ∧ Top (DifP N K j x 0) 0 (a' : Int)) (fun _ sx => N - (intOf sx).toNat)
        case atStart => exact ⟨0, a, Nat.zero_le _, rfl, rfl, DifP.start HT.out⟩
        case round =>
          obtain ⟨x, a2, hx, rfl, rfl, ht2⟩ := hrel
          have HT2 := Lib.hid ht2
          clear ht2
          by_cases hltx : x < N
          · have cx := HO1.out.cells x hltx
            have hxin := HIN.out x hltx
            obtain ⟨p, hp⟩ : ∃ p, p = gi (endsC N K (j : Int)) x := ⟨_, rfl⟩
            rw [← hp] at cx hxin
            have HP := Lib.hid hp
            clear hp
            go_wp2
            go_loop [6, 35] (fun s6 sy => ∃ (y a' : Nat), y ≤ N ∧ sy = .int .i64 (y : Int) ∧ s6 = .int .i64 (a' : Int) ∧ Top (DifP N K j x y) 0 (a' : Int)) (fun _ sy => N - (intOf sy).toNat)
            case atStart => exact ⟨0, a2, Nat.zero_le _, rfl, rfl, HT2.out⟩
            case round =>
              obtain ⟨y, a3, hy, rfl, rfl, ht3⟩ := hrel
              have HT3 := Lib.hid ht3
              clear ht3 cx
              by_cases hlty : y < N
              · have cy := HO1.out.cells y hlty
                have hyin := HIN.out y hlty
                have HT4 := Lib.hid (DifP.step HT3.out hltx hlty)
                obtain ⟨r, hr⟩ : ∃ r, r = gi (endsC N K (j : Int)) y := ⟨_, rfl⟩
                rw [← HP.out, ← hr] at HT4
                rw [← hr] at cy hyin
                have hsm := DifP.small HT4.out (by omega) (by omega)
                obtain ⟨a', ha'⟩ : ∃ a' : Nat, max (a3 : Int) (p - r) = (a' : Int) := ⟨(max (a3 : Int) (p - r)).toNat, by omega⟩
                rw [ha'] at HT4 hsm
                have HA' := Lib.hid ha'
                clear hr ha'
                go_wp2_with (go_at_call 31; refine (l1Most_any _ _ _).mono ?_; rw [HA'.out]; rintro e w' ⟨rfl, rfl⟩)
                go_round
                case rel => exact ⟨y + 1, a', by omega, by go_num, rfl, HT4.out⟩
                case measure => simp [intOf]; omega
              · obtain rfl : y = N := by omega
                go_wp2
                go_round
                case rel => exact ⟨x + 1, a3, by omega, by go_num, rfl, DifP.next HT3.out⟩
                case measure => simp [intOf]; omega
          · obtain rfl : x = N := by omega
            go_wp2
            go_roundw
            case rel => exact ⟨j + 1, a2, by omega, by go_num, rfl, DifP.done HT2.out, HC.out, HB.out⟩
            case measure => simp [intOf]; omega
      · obtain rfl : j = N := by omega
        have hg := gapN_of HT.out
        have HR := HRA.out a (by omega)
        rw [← hg]
        obtain ⟨q1, hq1⟩ : ∃ q1, q1 = rtA a (j : Int) (K : Int) := ⟨_, rfl⟩
        obtain ⟨q2, hq2⟩ : ∃ q2, q2 = rtB a (j : Int) (K : Int) := ⟨_, rfl⟩
        rw [← hq1, ← hq2] at HR
        have HQ1 := Lib.hid hq1
        have HQ2 := Lib.hid hq2
        have HR2 := Lib.hid HR
        have HG := Lib.hid hg
        clear hq1 hq2 HR hg
        go_wp2_with (first | (go_at_call 27; refine (chAll_any _ _ _ HF.out).mono ?_; rintro e w2 ⟨rfl, rfl⟩))
        refine (HR2.out _).mono ?_
        rintro e2 w2 ⟨rfl, hb⟩
        replace HC := cellStep HC hb
        replace HB := belStep HB hb
        have k0 := HC.out.c0; have k1 := HC.out.c1; have f0 := HC.out.f0; have f1 := HC.out.f1; have kz := HC.out.lt
        clear hb HR2
        go_wp2
        exact bodyPost_ret (v := .tuple #[.agg #[.int .i64 q1, .int .i64 q2], .bool true]) (by simp [results, Try.results11, go_sem, k0, k1]) rfl ⟨by rw [HQ1.out, HQ2.out, HG.out], (by repeat (first | exact Below.refl _ _ | exact HB.out | refine Below.setCell ?_ (by simp <;> omega) _ | refine Below.alloc ?_ (by simp <;> omega) _ | refine below_drewN ?_ _))⟩

set_option maxRecDepth 100000 in
set_option maxHeartbeats 2000000 in
theorem iGapOf_any (n k : Int) (w : World) : Calls Try.prog 10 #[.int .i64 n, .int .i64 k] w (RetRB (gpA n k) (gpB n k) (fallB n k) w) := by
  rcases hq : fallB n k with _ | _
  · rw [gpA_no hq, gpB_no hq]
    have HF := Lib.hid hq
    clear hq
    go_enter Try.func10, Try.ntmps10
    go_wp2_with (go_at_call 28; refine (isFall_any _ _ _).mono ?_; rw [HF.out]; rintro e w2 ⟨rfl, rfl⟩)
    have HC := cellNew w (.int .i64 0) (.int .i64 0) 32
    have HB := belAlloc (belRefl (w := w)) (.cells #[.int .i64 0, .int .i64 0] 32)
    exact bodyPost_ret (v := .tuple #[.agg #[.int .i64 0, .int .i64 0], .bool false]) (by simp [results, Try.results10, go_sem]) rfl ⟨rfl, (by repeat (first | exact Below.refl _ _ | exact HB.out | refine Below.setCell ?_ (by simp <;> omega) _ | refine Below.alloc ?_ (by simp <;> omega) _ | refine below_drewN ?_ _))⟩
  · rw [gpA_yes hq, gpB_yes hq]
    have HF := Lib.hid hq
    obtain ⟨⟨h2, h6⟩, hk0, hk⟩ := fallB_iff.1 hq
    obtain ⟨N, rfl⟩ : ∃ N : Nat, n = (N : Int) := ⟨n.toNat, by omega⟩
    obtain ⟨K, rfl⟩ : ∃ K : Nat, k = (K : Int) := ⟨k.toNat, by omega⟩
    rw [Int.toNat_natCast, Int.toNat_natCast]
    clear hq
    have HRA := Lib.hid (fun (a : Nat) (ha : a ≤ 4000000000000000000) => meanOf_rt a HF.out ha)
    go_enter Try.func10, Try.ntmps10
    go_wp2_with (go_at_call 28; refine (isFall_any _ _ _).mono ?_; rw [HF.out]; rintro e w2 ⟨rfl, rfl⟩)
    have HC := cellNew w (.int .i64 0) (.int .i64 0) 32
    have HB := belAlloc (belRefl (w := w)) (.cells #[.int .i64 0, .int .i64 0] 32)
    go_loopw [6, 15] (fun s6 sj wr => ∃ (j a : Nat), j ≤ N ∧ sj = .int .i64 (j : Int) ∧ s6 = .int .i64 (a : Int) ∧ Top (Dif N K j) 0 (a : Int) ∧ Cell2 wr w.heap.size (.int .i64 0) (.int .i64 0) ∧ Below w.heap.size w wr) (fun _ sj _ => N - (intOf sj).toNat)
    case atStart => exact ⟨0, 0, Nat.zero_le _, rfl, rfl, Dif.none N K, HC.out, HB.out⟩
    case round =>
      obtain ⟨j, a, hj, rfl, rfl, ht, hc, hbl⟩ := hrel
      replace HC := Lib.hid hc
      replace HB := Lib.hid hbl
      have HT := Lib.hid ht
      have hal := Dif.small ht (by omega) (by omega)
      clear hc hbl ht
      by_cases hlt : (j : Int) < (N : Int)
      · have HCE := Lib.hid (countsOfEnds_any N K j wr (by omega) (by omega) (by omega) (by omega))
        go_wp2_with fail
        refine HCE.out.mono ?_
        rintro e w1 ⟨g, rfl, hr, hb⟩
        have HRI := Lib.hid hr
        replace HC := cellStep HC hb
        replace HB := belStep HB hb
        clear hr hb HCE
        have HT2 := Lib.hid (fun (x y : Nat) => Dif.whole (x0 := x) (y0 := y) HT.out)
        have HIN : Hid (∀ v, v < N → 0 ≤ gi (endsC N K (j : Int)) v ∧ gi (endsC N K (j : Int)) v ≤ 95367431640625) := Lib.hid fun v hv => endsC_in hv (by omega) (by omega)
        have HZL := Lib.hid (endsC_length N K (j : Int))
        obtain ⟨Z, hZ⟩ : ∃ Z, Z = endsC N K (j : Int) := ⟨_, rfl⟩
        rw [← hZ] at HRI HT2 HIN HZL
        clear hZ
        go_wp2_with fail
        refine (Max_any _ N N Z _ HRI.out (by omega) (by omega)).mono ?_
        rintro e w2 ⟨x, rfl, hx, hmx, rfl⟩
        have HMX := Lib.hid hmx
        clear hmx
        go_wp2_with fail
        refine (Min_any _ N N Z _ HRI.out (by omega) (by omega)).mono ?_
        rintro e w2 ⟨y, rfl, hy, hmn, rfl⟩
        rw [HZL.out] at hx hy
        have HT3 := Lib.hid (HT2.out x y hx hy (fun i hi => HMX.out i (by rw [HZL.out]; exact hi)) (fun i hi => hmn i (by rw [HZL.out]; exact hi)))
        have hxin := HIN.out x hx
        have hyin := HIN.out y hy
        obtain ⟨p, hp⟩ : ∃ p, p = gi Z x := ⟨_, rfl⟩
        obtain ⟨r, hr⟩ : ∃ r, r = gi Z y := ⟨_, rfl⟩
        rw [← hp, ← hr] at HT3 ⊢
        rw [← hp] at hxin
        rw [← hr] at hyin
        have hsm := Dif.small HT3.out (by omega) (by omega)
        obtain ⟨a', ha'⟩ : ∃ a' : Nat, max (a : Int) (p - r) = (a' : Int) := ⟨(max (a : Int) (p - r)).toNat, by omega⟩
        rw [ha'] at HT3 hsm
        clear hmn HMX hp hr HT2
        go_wp2
        go_roundw
        case rel => exact ⟨j + 1, a', by omega, by go_num, by rw [show (if (a : Int) < p - r then p - r else (a : Int)) = (a' : Int) by split <;> omega], HT3.out, HC.out, HB.out⟩
        case measure => simp [intOf]; omega
      · obtain rfl : j = N := by omega
        have hg := gapN_of HT.out
        have HR := HRA.out a (by omega)
        rw [← hg]
        obtain ⟨q1, hq1⟩ : ∃ q1, q1 = rtA a (j : Int) (K : Int) := ⟨_, rfl⟩
        obtain ⟨q2, hq2⟩ : ∃ q2, q2 = rtB a (j : Int) (K : Int) := ⟨_, rfl⟩
        rw [← hq1, ← hq2] at HR
        have HQ1 := Lib.hid hq1
        have HQ2 := Lib.hid hq2
        have HR2 := Lib.hid HR
        have HG := Lib.hid hg
        clear hq1 hq2 HR hg
        go_wp2_with fail
        refine (HR2.out _).mono ?_
        rintro e2 w2 ⟨rfl, hb⟩
        replace HC := cellStep HC hb
        replace HB := belStep HB hb
        have k0 := HC.out.c0; have k1 := HC.out.c1; have f0 := HC.out.f0; have f1 := HC.out.f1; have kz := HC.out.lt
        clear hb HR2
        go_wp2
        exact bodyPost_ret (v := .tuple #[.agg #[.int .i64 q1, .int .i64 q2], .bool true]) (by simp [results, Try.results10, go_sem, k0, k1]) rfl ⟨by rw [HQ1.out, HQ2.out, HG.out], (by repeat (first | exact Below.refl _ _ | exact HB.out | refine Below.setCell ?_ (by simp <;> omega) _ | refine Below.alloc ?_ (by simp <;> omega) _ | refine below_drewN ?_ _))⟩
end Go.Proofs.Ytbgkhehopldilaa
