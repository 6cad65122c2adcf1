/- All levels, of the program. -/
import Derived.Test.YtnhhbpogjhcibaaLv1
import Derived.Test.YtnhhbpogjhcibaaConcat
namespace Go.Proofs.Ytnhhbpogjhcibaa
open Go Go.RowKit

def selC {α : Type} (a b : α) : Nat → α
  | 0 => a
  | _ => b
theorem Parts.twoC {w : World} {A1 A2 : Option Addr} {n1 c1 n2 c2 : Nat} {z1 z2 : List Int} (h1 : RI w A1 n1 z1) (h2 : RI w A2 n2 z2) :
    Parts (w.alloc (.cells #[.slice A1 n1 c1, .slice A2 n2 c2] 22)) (some ⟨w.heap.size, 0, none⟩) 2 (selC A1 A2) (selC n1 n2) (selC c1 c2) (selC z1 z2) := by
  refine ⟨fun _ => ⟨w.heap.size, 0, rfl, by simp, fun j hj => ?_⟩, fun j hj => ?_⟩
  · match j, hj with
    | 0, _ => simp [selC]
    | 1, _ => simp [selC]
  · match j, hj with
    | 0, _ => exact h1.alloc _
    | 1, _ => exact h2.alloc _
theorem cat_twoC (z : Int) (l : List Int) : cat (selC [z] l) 2 = z :: l := by simp [cat, selC]

set_option maxRecDepth 100000 in
set_option maxHeartbeats 4000000 in
theorem levelsFrom_any (n : Nat) (hn : n ≤ 8) : ∀ (f r : Nat), n ≤ r + f → f ≤ 10 → r ≤ 20 → ∀ (w : World),
    Calls Try.prog 54 #[.int .i64 (r : Int), .int .i64 (n : Int)] w (FreshSSc w (lvK n f r)) := by
  intro f
  induction f with
  | zero =>
    intro r hf _ hr w
    have i0 : ¬ (r : Int) < (n : Int) - 1 := by omega
    go_enter Try.func54, Try.ntmps54
    go_wp2
    go_loopw [5, 6] (fun s5 s6 wr => s5 = .slice (some ⟨w.heap.size, 0, none⟩) 1 1 ∧ s6 = .int .i64 (r : Int) ∧ wr = w.alloc (.cells #[.slice none 0 0] 22)) (fun _ _ _ => 0)
    case atStart => exact ⟨rfl, rfl, rfl⟩
    case round =>
      obtain ⟨rfl, rfl, rfl⟩ := hrel
      go_wp2
      go_ret
      exact ⟨_, 1, _, _, rfl, OII.lit0 w w.heap.size (Nat.le_refl _), (Below.refl _ _).alloc (Nat.le_refl _) _⟩
  | succ f ih =>
    intro r hf hf10 hr w
    have HIH := Lib.hid ih
    have HLK := Lib.hid (fun x => lvK_len n hn f x)
    have hpw : 8 ^ f ≤ 8 ^ 9 := Nat.pow_le_pow_right (by omega) (by omega)
    have HRW := Lib.hid (fun x l (h : l ∈ lvK n f x) => lvK_row n f x l h)
    obtain ⟨L, hL⟩ : ∃ L, L = lvK n f := ⟨_, rfl⟩
    have HEQ : Hid (lvK n (f + 1) r = [] :: lvP L r (n - 1 - r)) := by rw [hL]; exact Lib.hid rfl
    rw [← hL] at HLK HRW HIH
    rw [HEQ.out]
    clear hL
    obtain ⟨N, hN⟩ : ∃ N, N = n - 1 - r := ⟨_, rfl⟩
    rw [← hN]
    have HN := Lib.hid hN
    have hN8 : N ≤ 8 := by omega
    clear ih hN
    go_enter Try.func54, Try.ntmps54
    go_wp2
    go_loopw [5, 6] (fun s5 s6 wr => ∃ (k : Nat) (A2 : Option Addr) (c2 : Nat) (S2 : List Sl) (L2 : List (List Int)), k ≤ N ∧ s6 = .int .i64 ((r + k : Nat) : Int) ∧ L2 = [] :: lvP L r k ∧ s5 = .slice A2 L2.length c2 ∧ OII wr w.heap.size wr.heap.size A2 L2.length c2 L2 S2 ∧ Below w.heap.size w wr) (fun _ i _ => 40 - (intOf i).toNat)
    case atStart => exact ⟨0, _, 1, _, [[]], Nat.zero_le _, rfl, rfl, rfl, (OII.lit0 w w.heap.size (Nat.le_refl _)).top, (Below.refl _ _).alloc (Nat.le_refl _) _⟩
    case round =>
      obtain ⟨k, A2, c2, S2, L2, hk, rfl, hL2, rfl, ho2, hb2⟩ := hrel
      obtain ⟨wo, hwo⟩ : ∃ wo, wo = wr := ⟨_, rfl⟩
      subst hwo
      have HO2 := Lib.hid ho2
      have HB2 := Lib.hid hb2
      have HL2 := Lib.hid hL2
      have hl2 : L2.length ≤ 1 + k * 8 ^ f := by rw [hL2, List.length_cons]; have := lvP_len L r (8 ^ f) HLK.out k; omega
      have hl3 : k * 8 ^ f ≤ 8 * 8 ^ 9 := Nat.mul_le_mul (by omega) hpw
      obtain ⟨q, hq⟩ : ∃ q, q = r + k := ⟨_, rfl⟩
      rw [← hq]
      have HQ := Lib.hid hq
      have hq40 : q ≤ 30 := by omega
      clear ho2 hb2 hL2
      by_cases hlt : k < N
      · have i0 : (q : Int) < (n : Int) - 1 := by have := HN.out; omega
        have hc0 : ((q : Int) + 2) = ((q + 2 : Nat) : Int) := by omega
        have HC := Lib.hid (fun w2 => HIH.out (q + 2) (by have := HN.out; omega) (by omega) (by have := HN.out; omega) w2)
        rw [← hc0] at HC
        have hm8 : (8 : Nat) ^ 9 = 134217728 := by decide
        rw [hm8] at hpw hl3
        clear hq hc0 hm8
        go_wp2_with fail
        refine (HC.out _).mono ?_
        rintro e w4 ⟨A4, c4, M4, S4, rfl, o4, hb4⟩
        have hEl : (L (q + 2)).length ≤ 134217728 := Nat.le_trans (HLK.out _) hpw
        have HRO : Hid (∀ j, j < (L (q + 2)).length → (gz (L (q + 2)) j).length ≤ f) := fun j hj => HRW.out _ _ (mem_gzL hj)
        obtain ⟨E, hE⟩ : ∃ E, E = L (q + 2) := ⟨_, rfl⟩
        rw [← hE] at o4 hEl HRO ⊢
        have HE := Lib.hid hE
        have HR4 := Lib.hid o4.top
        have HG4 := Lib.hid o4.blkLtC
        have HA4 := Lib.hid (HO2.out.below hb4).top
        have HB4 := Lib.hid (HB2.out.trans (hb4.mono HB2.out.size))
        have HF4 : Hid (∀ b, blk A2 = some b → b < wo.heap.size ∨ w4.heap.size ≤ b) := fun b hb => .inl (HO2.out.blkLtC b hb)
        obtain ⟨K3, hK3⟩ : ∃ K3, K3 = wo.heap.size := ⟨_, rfl⟩
        obtain ⟨K4, hK4⟩ : ∃ K4, K4 = w4.heap.size := ⟨_, rfl⟩
        rw [← hK3, ← hK4] at HF4
        rw [← hK3, ← hK4] at HR4
        rw [← hK4] at HG4
        have HZ4 := Lib.hid (Nat.le_of_eq hK4)
        clear o4 hb4 hE hK3 hK4
        go_wp2
        go_loopw [5, 8, 22] (fun s5 _ s22 wq => ∃ (j : Nat) (A5 : Option Addr) (c5 : Nat) (S5 : List Sl) (L5 : List (List Int)), j ≤ E.length ∧ s22 = .int .i64 (j : Int) ∧ L5 = L2 ++ (E.take j).map (fun l => (q : Int) :: l) ∧ s5 = .slice A5 L5.length c5 ∧ OII wq w.heap.size wq.heap.size A5 L5.length c5 L5 S5 ∧ OII wq K3 K4 A4 E.length c4 E S4 ∧ (∀ b, blk A5 = some b → b < K3 ∨ K4 ≤ b) ∧ K4 ≤ wq.heap.size ∧ Below w.heap.size w wq) (fun _ _ s22 _ => E.length - (intOf s22).toNat)
        case atStart => exact ⟨0, A2, c2, S2, L2, Nat.zero_le _, rfl, by simp, rfl, HA4.out, HR4.out, HF4.out, HZ4.out, HB4.out⟩
        case round =>
          obtain ⟨j, A5, c5, S5, L5, hj, rfl, hL5, rfl, ho5, hr5, hf5, hz5, hb5⟩ := hrel
          have HO5 := Lib.hid ho5
          have HR5 := Lib.hid hr5
          have HF5 := Lib.hid hf5
          have HZ5 := Lib.hid hz5
          have HB5 := Lib.hid hb5
          have HL5 := Lib.hid hL5
          have hl5 : L5.length ≤ 2000000000 := by rw [hL5, List.length_append, List.length_map, List.length_take]; omega
          clear ho5 hf5 hz5 hb5 hL5
          by_cases hlj : j < E.length
          · obtain ⟨g4, a, m, d, rfl, hg4, _, _, hcj, hoi⟩ := hr5.row hlj
            have hm15 : m ≤ 10 := by have := HRO.out j hlj; rw [hoi.1] at this; omega
            have HMT : Hid (((E.take (j + 1)).map fun l => (q : Int) :: l) = ((E.take j).map fun l => (q : Int) :: l) ++ [(q : Int) :: gz E j]) := mapTakeC hlj
            obtain ⟨z, hz⟩ : ∃ z, z = gz E j := ⟨_, rfl⟩
            rw [← hz] at HMT hoi
            have HRI := Lib.hid (hoi.ri.alloc (.cells #[.int .i64 (q : Int)] 3))
            have HLT := Lib.hid (OI.oneC wr wr.heap.size (q : Int) (Nat.le_refl _))
            have HZW := Lib.hid HB5.out.size
            have HZL : Hid (z.length ≤ 10) := Lib.hid (by rw [hoi.1]; exact hm15)
            have PT : Hid (Parts ((wr.alloc (.cells #[.int .i64 (q : Int)] 3)).alloc (.cells #[.slice (some ⟨wr.heap.size, 0, none⟩) 1 1, .slice a m d] 22)) (some ⟨wr.heap.size + 1, 0, none⟩) 2 (selC (some ⟨wr.heap.size, 0, none⟩) a) (selC 1 m) (selC 1 d) (selC [(q : Int)] z)) := by
              have := Parts.twoC (c1 := 1) (c2 := d) HLT.out.ri HRI.out
              show Parts _ _ _ _ _ _ _
              simpa using this
            have HCC := Lib.hid (concat_any _ 2 2 _ _ _ _ _ PT.out (by omega) (by rw [cat_twoC]; simp; have := HZL.out; omega))
            rw [cat_twoC] at HCC
            clear hr5 hoi hz
            go_wp2_with (first
              | (go_at_call 71; refine HCC.out.mono ?_; rintro e w6 ⟨A6, c6, rfl, ho6, hb6⟩; have HO6 := Lib.hid (ho6.mono (B' := wr.heap.size) (by simp; omega)); have HA6 := Lib.hid (((HO5.out.alloc (.cells #[.int .i64 (q : Int)] 3)).alloc _).below hb6); have HR6 := Lib.hid (((HR5.out.alloc (.cells #[.int .i64 (q : Int)] 3)).alloc _).below hb6); have HB6 := Lib.hid ((((HB5.out.alloc HZW.out (.cells #[.int .i64 (q : Int)] 3)).alloc (by have := HZW.out; simp; omega) _)).trans (hb6.mono (by have := HZW.out; simp; omega))); have HZ6 := Lib.hid hb6.size; clear ho6 hb6)
              | (at_builtin; refine wpList_append_slA _ rfl _ _ rfl w.heap.size wr.heap.size A5 L5.length c5 L5 S5 A6 _ c6 _ _ rfl rfl (HA6.out.alloc _) (HO6.out.alloc _) HZW.out (cellNewAt _ _ _ rfl) (by omega) (by have := HZ6.out; have := HZW.out; simp at *; omega) ?_; intro A8 c8 w8 ho8 hg8 hat8; have HO8 := Lib.hid ho8; have HR8 := Lib.hid ((HR6.out.alloc (.cells #[.slice A6 ((q : Int) :: z).length c6] 22)).far (Nat.le_refl _) HG4.out hg8 HF5.out); have HB8 := Lib.hid ((HB6.out.alloc (by have := HZ6.out; have := HZW.out; simp at *; omega) _).grown hg8 (by have := HZ6.out; have := HZW.out; simp at *; omega) (fun b hb => HA6.out.blkB b hb)); have HZ8 := Lib.hid hg8.size; have HF8 : Hid (∀ b, blk A8 = some b → b < K3 ∨ K4 ≤ b) := Lib.hid (fun b hb => by
                  rcases hat8 with h | h
                  · exact HF5.out b (h ▸ hb)
                  · right; rw [h] at hb; have := Option.some.inj hb; have := HZ5.out; have := HZ6.out; simp at *; omega); clear ho8 hg8 hat8)
              | go_in)
            go_roundw
            case rel =>
              exact ⟨j + 1, A8, c8, _, L5 ++ [(q : Int) :: z], by omega, by go_num, by rw [HL5.out, HMT.out, List.append_assoc], by simp, by simpa using HO8.out.top, HR8.out, HF8.out, by have := HZ5.out; have := HZ6.out; have := HZ8.out; simp at *; omega, HB8.out⟩
            case measure => simp [intOf]; omega
          · obtain rfl : j = E.length := by omega
            go_wp2
            go_roundw
            case rel => exact ⟨k + 1, A5, c5, S5, L5, hlt, by have := HQ.out; subst this; go_num, by rw [HL5.out, List.take_length, HL2.out, lvP_succ, HE.out, HQ.out]; rfl, rfl, HO5.out, HB5.out⟩
            case measure => simp [intOf]; omega
      · obtain rfl : k = N := by omega
        have i0 : ¬ (q : Int) < (n : Int) - 1 := by have := HN.out; omega
        clear hq
        go_wp2
        go_ret
        exact ⟨A2, c2, _, S2, by rw [HL2.out]; rfl, by rw [← HL2.out]; exact HO2.out, HB2.out⟩
end Go.Proofs.Ytnhhbpogjhcibaa
