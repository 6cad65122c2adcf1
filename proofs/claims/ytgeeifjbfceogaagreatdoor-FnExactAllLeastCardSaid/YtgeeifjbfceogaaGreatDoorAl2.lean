/- The program lists the least ladders of an order. -/
import Derived.Test.YtgeeifjbfceogaaGreatDoorAl1
import Derived.Test.YtgeeifjbfceogaaGreatDoorOila
import Derived.Test.YtgeeifjbfceogaaGreatDoorConR
import Derived.Test.YtgeeifjbfceogaaGreatDoorMgE
import Derived.Test.YtgeeifjbfceogaaGreatDoorDs2
import Derived.Test.YtgeeifjbfceogaaGreatDoorMgK
namespace Go.Proofs.YtgeeifjbfceogaaGreatDoor
open Go Go.RowKit

theorem Parts.twoR {w : World} {A1 A2 : Option Addr} {n1 c1 n2 c2 : Nat} {z1 z2 : List Int} (h1 : RI w A1 n1 z1) (h2 : RI w A2 n2 z2) :
    Parts (w.alloc (.cells #[.slice A1 n1 c1, .slice A2 n2 c2] 83)) (some ⟨w.heap.size, 0, none⟩) 2 (sel3 A1 A2 none) (sel3 n1 n2 0) (sel3 c1 c2 0) (sel3 z1 z2 []) := by
  refine ⟨fun _ => ⟨w.heap.size, 0, rfl, by simp, fun j hj => ?_⟩, fun j hj => ?_⟩
  · match j, hj with
    | 0, _ => simp [sel3]
    | 1, _ => simp [sel3]
  · match j, hj with
    | 0, _ => exact h1.alloc _
    | 1, _ => exact h2.alloc _
theorem cat_two (z : Int) (l : List Int) : cat (sel3 [z] l []) 2 = z :: l := by simp [cat, sel3]
theorem OIL.blkLt {w : World} {B M : Nat} {A : Option Addr} {n c : Nat} {zss : List (List Int)} {S : List Sl} (h : OIL w B M A n c zss S) : ∀ b, blk A = some b → b < w.heap.size := by
  intro x hx
  rcases h.form with ⟨e, _, _⟩ | ⟨g, cur, e, hB, hg, _⟩
  · rw [e] at hx; simp [blk] at hx
  · rw [e] at hx; simp [blk] at hx; omega

set_option maxRecDepth 100000 in
set_option maxHeartbeats 8000000 in
theorem allLeast_any (n : Nat) (hn2 : 2 ≤ n) (hn : n ≤ 6) : ∀ (M : Nat) (q : List Int), ord q = true → q.length = n → ninv q < M → cnt q ≤ 800 → ∀ (A : Option Addr) (c : Nat) (w : World), RI w A n q → n ≤ c →
    Calls Tryz.prog 73 #[.slice A n c] w (FreshRL w (alL q)) := by
  intro M
  induction M with
  | zero => intro q _ _ h; omega
  | succ M ih =>
    intro q hq hl hM hc A c w hA hcA
    have HDS : Hid (Calls Tryz.prog 92 #[.slice A n c] w (FreshIB w (dscL q).length (dscL q) true)) := by
      have := iDescentsOf_any A n c q w hA (by omega) hcA
      rw [dscN_yes hq, hq] at this
      exact this
    rcases Nat.eq_zero_or_pos (ninv q) with h0 | h0
    · rw [alL_zero h0]
      rw [dscL_nil h0] at HDS
      clear ih hq hl hM hc hA hcA h0
      go_enter Tryz.func73, Tryz.ntmps73
      go_wp2_with fail
      refine HDS.out.mono ?_
      rintro e w1 ⟨A1, c1, rfl, o1, hb⟩
      have HB := Lib.hid hb
      clear o1 hb HDS
      go_wp2
      go_ret
      exact ⟨_, 1, _, _, rfl, OIL.lit0 w1 w.heap.size HB.out.size, HB.out.alloc HB.out.size _⟩
    · have HPT : Hid (∀ k, k < (dscL q).length → (alD q ((dscL q).take k)).length + (alL (exch q (gi (dscL q) k).toNat)).length ≤ 800) := fun k hk => Nat.le_trans (alD_part (dsc_split hk)) hc
      have HDM : Hid (∀ k, k < (dscL q).length → ∃ i : Nat, gi (dscL q) k = (i : Int) ∧ i + 1 < n ∧ gi q (i + 1) < gi q i) := fun k hk => by
        obtain ⟨i, h1, h2, h3⟩ := dsc_mem (gi_mem hk)
        exact ⟨i, h1, by omega, h3⟩
      have HTK : Hid (∀ k, k < (dscL q).length → (dscL q).take (k + 1) = (dscL q).take k ++ [gi (dscL q) k]) := fun k hk => take_dsc hk
      have HAL : Hid (alL q = alD q ((dscL q).take (dscL q).length)) := by show _ = _; rw [List.take_length]; exact alL_step h0
      have hpos : 0 < (dscL q).length := List.length_pos_iff.2 (dscL_ne h0)
      have HIH := Lib.hid ih
      have HQ := Lib.hid hq
      have HAA := Lib.hid hA
      have hDl : (dscL q).length ≤ 6 := by have := dscK_len q (q.length - 1); unfold dscL; omega
      obtain ⟨D, hD⟩ : ∃ D, D = dscL q := ⟨_, rfl⟩
      rw [← hD] at HPT HDM HTK HAL HDS hpos hDl
      rw [HAL.out]
      clear hD h0 hc ih hq hA HAL
      have hp2 : (0 : Int) < (D.length : Int) := by omega
      go_enter Tryz.func73, Tryz.ntmps73
      go_wp2_with fail
      refine HDS.out.mono ?_
      rintro e w1 ⟨A1, c1, rfl, o1, hb⟩
      have HB1 := Lib.hid hb
      have HO1 := Lib.hid o1
      have HZ1 := Lib.hid hb.size
      have HA1 : Hid (RI w1 A n q) := HAA.out.below hb (Nat.le_refl _)
      clear o1 hb HDS HAA
      have hne : ((D.length : Int) == 0) = false := by rw [beq_eq_false_iff_ne]; omega
      go_wp2
      go_loopw [5, 7, 9, 21] (fun s5 _ _ s21 wr => ∃ (k : Nat) (A2 : Option Addr) (c2 : Nat) (S2 : List Sl) (L2 : List (List Int)), k ≤ D.length ∧ s21 = .int .i64 (k : Int) ∧ L2 = alD q (D.take k) ∧ s5 = .slice A2 L2.length c2 ∧ OIL wr w1.heap.size wr.heap.size A2 L2.length c2 L2 S2 ∧ Below w1.heap.size w1 wr) (fun _ _ _ i _ => D.length - (intOf i).toNat)
      case atStart => exact ⟨0, none, 0, [], [], Nat.zero_le _, rfl, rfl, rfl, OIL.none_ _ _, Below.refl _ _⟩
      case round =>
        obtain ⟨k, A2, c2, S2, L2, hk, rfl, hL2, rfl, ho2, hb2⟩ := hrel
        obtain ⟨wo, hwo⟩ : ∃ wo, wo = wr := ⟨_, rfl⟩
        subst hwo
        have HO2 := Lib.hid ho2
        have HB2 := Lib.hid hb2
        have HL2 := Lib.hid hL2
        clear ho2 hb2 hL2
        by_cases hlt : k < D.length
        · obtain ⟨i, hgi, hin, hdi⟩ := HDM.out k hlt
          have hpt := HPT.out k hlt
          have htk := HTK.out k hlt
          obtain ⟨b, off, rfl, hbw, hcl⟩ := HO1.out.ri.cell hlt
          have hck := (HB2.out.cell (p := ⟨b, off + k, none⟩) hbw).trans (hcl k hlt)
          rw [hgi] at hck hpt htk
          rw [Int.toNat_natCast] at hpt
          have HTK1 := Lib.hid htk
          have HPT1 := Lib.hid hpt
          have hinv := ninv_exch q i (by omega) hdi
          have HIN : Hid (ninv (exch q i) < M) := Lib.hid (by omega)
          have HCE : Hid (cnt (exch q i) ≤ 800) := Lib.hid (by rw [← alL_cnt]; omega)
          have HRO := Lib.hid (fun j => Nat.le_trans (alL_rows (exch q i) j) (ninv_six (zs := exch q i) (by rw [exch_length, hl]; exact hn)))
          have HAR : Hid (RI wo A n q) := HA1.out.below HB2.out (Nat.le_refl _)
          clear hcl hgi hpt htk hinv hdi
          go_wp2_with fail
          refine (restBelow_any A n c q i wo HAR.out (by omega) hin).mono ?_
          rintro e w3 ⟨A3, c3, rfl, o3, hb3⟩
          have HO3 := Lib.hid o3
          have HB3 := Lib.hid hb3
          clear o3 hb3
          go_wp2_with fail
          refine (HIH.out (exch q i) (ord_perm (exch_perm q i (by omega)).symm HQ.out) (by rw [exch_length]; exact hl) HIN.out HCE.out A3 c3 w3 HO3.out.ri HO3.out.le).mono ?_
          rintro e w4 ⟨A4, c4, M4, S4, rfl, o4, hb4⟩
          obtain ⟨E, hE⟩ : ∃ E, E = alL (exch q i) := ⟨_, rfl⟩
          rw [← hE] at o4 HPT1 HRO ⊢
          have HE := Lib.hid hE
          have hEl : E.length ≤ 800 := by have := HPT1.out; omega
          have HR4 := Lib.hid o4.top
          have HG4 := Lib.hid o4.blkLt
          have HA4 := Lib.hid ((HO2.out.below HB3.out).below hb4).top
          have HB4 := Lib.hid ((HB2.out.trans (HB3.out.mono HB2.out.size)).trans (hb4.mono (Nat.le_trans HB2.out.size HB3.out.size)))
          have HF4 : Hid (∀ b, blk A2 = some b → b < w3.heap.size ∨ w4.heap.size ≤ b) := fun b hb => .inl (Nat.lt_of_lt_of_le (HO2.out.blkLt b hb) HB3.out.size)
          obtain ⟨K3, hK3⟩ : ∃ K3, K3 = w3.heap.size := ⟨_, rfl⟩
          obtain ⟨K4, hK4⟩ : ∃ K4, K4 = w4.heap.size := ⟨_, rfl⟩
          rw [← hK3, ← hK4] at HF4
          rw [← hK3, ← hK4] at HR4
          rw [← hK4] at HG4
          have HZ4 := Lib.hid (Nat.le_of_eq hK4)
          clear o4 hb4 hE hK3 hK4 hck
          go_wp2
          go_loopw [5, 9, 30] (fun s5 _ s30 wq => ∃ (j : Nat) (A5 : Option Addr) (c5 : Nat) (S5 : List Sl) (L5 : List (List Int)), j ≤ E.length ∧ s30 = .int .i64 (j : Int) ∧ L5 = alD q (D.take k) ++ (E.take j).map (fun l => (i : Int) :: l) ∧ s5 = .slice A5 L5.length c5 ∧ OIL wq w1.heap.size wq.heap.size A5 L5.length c5 L5 S5 ∧ OIL wq K3 K4 A4 E.length c4 E S4 ∧ (∀ b, blk A5 = some b → b < K3 ∨ K4 ≤ b) ∧ K4 ≤ wq.heap.size ∧ Below w1.heap.size w1 wq) (fun _ _ s30 _ => E.length - (intOf s30).toNat)
          case atStart => exact ⟨0, A2, c2, S2, L2, Nat.zero_le _, rfl, by rw [HL2.out]; simp, rfl, HA4.out, HR4.out, HF4.out, HZ4.out, HB4.out⟩
          case round =>
            obtain ⟨j, A5, c5, S5, L5, hj, rfl, hL5, rfl, ho5, hr5, hf5, hz5, hb5⟩ := hrel
            have HO5 := Lib.hid ho5
            have HR5 := Lib.hid hr5
            have HF5 := Lib.hid hf5
            have HZ5 := Lib.hid hz5
            have HB5 := Lib.hid hb5
            have HL5 := Lib.hid hL5
            have hl5 : L5.length ≤ 1600 := by rw [hL5, List.length_append, List.length_map, List.length_take]; have := HPT1.out; omega
            clear ho5 hf5 hz5 hb5 hL5
            by_cases hlj : j < E.length
            · obtain ⟨g4, a, m, d, rfl, hg4, _, _, hcj, hoi⟩ := hr5.row hlj
              have hm15 : m ≤ 15 := by have := HRO.out j; rw [hoi.1] at this; exact this
              have HOI := Lib.hid hoi
              have HMT : Hid (((E.take (j + 1)).map fun l => (i : Int) :: l) = ((E.take j).map fun l => (i : Int) :: l) ++ [(i : Int) :: gz E j]) := mapTake hlj
              obtain ⟨z, hz⟩ : ∃ z, z = gz E j := ⟨_, rfl⟩
              rw [← hz] at HOI HMT hoi
              have hzl : z.length = m := hoi.1
              clear hr5 hoi hz
              have PT := Lib.hid (Parts.twoR (w := wr.alloc (.cells #[.int .i64 (i : Int)] 3)) (c1 := 1) (c2 := d) (RI.single wr (i : Int)) (HOI.out.ri.alloc _))
              have HCC := Lib.hid (concat_anyR _ 2 2 _ _ _ _ _ PT.out (by omega) (by rw [cat_two]; simp; omega))
              rw [cat_two] at HCC
              simp only [World.size_alloc, List.length_cons] at HCC
              rw [hzl] at HCC
              clear PT
              go_wp2_with fail
              refine HCC.out.mono ?_
              rintro e w6 ⟨A6, c6, rfl, o6, hb6⟩
              have HWX : Hid (Below wr.heap.size wr w6) := Lib.hid ((((Below.refl _ wr).alloc (Nat.le_refl _) _).alloc (by simp) _).trans (hb6.mono (by simp; omega)))
              have HO6 : Hid (OI w6 wr.heap.size A6 (m + 1) c6 ((i : Int) :: z)) := Lib.hid (o6.mono (by simp; omega))
              have HA6 := Lib.hid (HO5.out.below HWX.out)
              have HR6 := Lib.hid (HR5.out.below HWX.out)
              have HB6 := Lib.hid (HB5.out.trans (HWX.out.mono HB5.out.size))
              have HZ6 := Lib.hid HWX.out.size
              have HZW := Lib.hid HB5.out.size
              clear o6 hb6 HCC HOI HWX
              go_wp2_with (first
                | (at_builtin; refine wpList_append_rlA _ rfl _ _ rfl w1.heap.size wr.heap.size A5 L5.length c5 L5 S5 A6 (m + 1) c6 _ _ rfl rfl (HA6.out.alloc _) (HO6.out.alloc _) HZW.out (cellNewAt _ _ _ rfl) (by omega) (by have := HZ6.out; have := HZW.out; simp; omega) ?_; intro A8 c8 w8 ho8 hg8 hat8; have HO8 := Lib.hid ho8; have HR8 := Lib.hid ((HR6.out.alloc (.cells #[.slice A6 (m + 1) c6] 83)).far (Nat.le_refl _) HG4.out hg8 HF5.out); have HB8 := Lib.hid ((HB6.out.alloc (Nat.le_trans HZW.out HZ6.out) _).grown hg8 (by have := HZ6.out; have := HZW.out; simp; omega) (fun b hb => HA6.out.blkB b hb)); have HZ8 := Lib.hid hg8.size; have HF8 : Hid (∀ b, blk A8 = some b → b < K3 ∨ K4 ≤ b) := Lib.hid (fun b hb => by
                    rcases hat8 with h | h
                    · exact HF5.out b (h ▸ hb)
                    · right; rw [h] at hb; have := Option.some.inj hb; have := HZ5.out; have := HZ6.out; simp at *; omega); clear ho8 hg8 hat8)
                | go_in)
              go_roundw
              case rel =>
                exact ⟨j + 1, A8, c8, _, L5 ++ [(i : Int) :: z], by omega, by go_num, by rw [HL5.out, HMT.out, List.append_assoc], by simp, by simpa using HO8.out.top, HR8.out, HF8.out, by have := HZ5.out; have := HZ6.out; have := HZ8.out; simp at *; omega, HB8.out⟩
              case measure => simp [intOf]; omega
            · obtain rfl : j = E.length := by omega
              go_wp2
              go_roundw
              case rel => exact ⟨k + 1, A5, c5, S5, L5, hlt, by go_num, by rw [HL5.out, List.take_length, HTK1.out, alD_append, alD_one, Int.toNat_natCast, ← HE.out], rfl, HO5.out, HB5.out⟩
              case measure => simp [intOf]; omega
        · obtain rfl : k = D.length := by omega
          have e := HL2.out
          rw [List.take_length] at e
          subst e
          go_wp2
          go_ret
          exact ⟨A2, c2, _, S2, by rw [List.take_length]; rfl, by rw [List.take_length]; exact HO2.out.mono (Nat.le_trans HB1.out.size (Nat.le_refl _)), HB1.out.trans (HB2.out.mono HZ1.out)⟩
end Go.Proofs.YtgeeifjbfceogaaGreatDoor
