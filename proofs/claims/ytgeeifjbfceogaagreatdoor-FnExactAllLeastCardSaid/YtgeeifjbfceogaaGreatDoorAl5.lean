/- The model lists the least ladders of an order. -/
import Derived.Test.YtgeeifjbfceogaaGreatDoorAl1
import Derived.Test.YtgeeifjbfceogaaGreatDoorSla
import Derived.Test.YtgeeifjbfceogaaGreatDoorCb4
import Derived.Test.YtgeeifjbfceogaaGreatDoorMgM
namespace Go.Proofs.YtgeeifjbfceogaaGreatDoor
open Go Go.RowKit

theorem OI.one' (w : World) (B : Nat) (x : Int) (hB : B ≤ w.heap.size) : OI (w.alloc (.cells #[.int .i64 x] 3)) B (some ⟨w.heap.size, 0, none⟩) 1 1 [x] :=
  ⟨rfl, World.ownsRow_lit _ _ _ hB (by decide) rfl⟩
theorem OII.blkLt {w : World} {B M : Nat} {A : Option Addr} {n c : Nat} {zss : List (List Int)} {S : List Sl} (h : OII w B M A n c zss S) : ∀ b, blk A = some b → b < w.heap.size := by
  intro x hx
  rcases h.form with ⟨e, _, _⟩ | ⟨g, cur, e, hB, hg, _⟩
  · rw [e] at hx; simp [blk] at hx
  · rw [e] at hx; simp [blk] at hx; omega
theorem noD_end {q : List Int} {k : Nat} (hk : k = q.length - 1) : if noD q k = true then alL q = [[]] else alL q = alD q (dscK q k) := by
  subst hk
  rcases hb : noD q (q.length - 1) with _ | _
  · rw [if_neg (by simp)]
    rcases Nat.eq_zero_or_pos (ninv q) with h0 | h0
    · have := dscL_nil h0
      unfold noD at hb
      unfold dscL at this
      rw [this] at hb
      cases hb
    · exact alL_step h0
  · rw [if_pos rfl]
    rcases Nat.eq_zero_or_pos (ninv q) with h0 | h0
    · exact alL_zero h0
    · have := dscL_ne h0
      unfold noD at hb
      unfold dscL at this
      exact absurd (List.isEmpty_iff.1 hb) this
theorem dscK_yes {q : List Int} {k : Nat} (h : gi q (k + 1) < gi q k) : dscK q (k + 1) = dscK q k ++ [(k : Int)] := by simp only [dscK]; rw [if_pos h]
theorem dscK_no {q : List Int} {k : Nat} (h : ¬ gi q (k + 1) < gi q k) : dscK q (k + 1) = dscK q k := by simp only [dscK]; rw [if_neg h, List.append_nil]

set_option maxRecDepth 100000 in
set_option maxHeartbeats 8000000 in
theorem alList_any (n : Nat) (hn2 : 2 ≤ n) (hn : n ≤ 6) : ∀ (M : Nat) (q : List Int), ord q = true → q.length = n → ninv q < M → cnt q ≤ 800 → ∀ (A : Option Addr) (c : Nat) (w : World), RI w A n q →
    Calls Tryz.prog 72 #[.slice A n c] w (FreshSS w (alL q)) := by
  intro M
  induction M with
  | zero => intro q _ _ h; omega
  | succ M ih =>
    intro q hq hl hM hc A c w hA
    have HND := Lib.hid (nodup_gi.1 (ord_iff.1 hq).2.2.2)
    have HPT : Hid (∀ i, i + 1 < n → gi q (i + 1) < gi q i → (alD q (dscK q i)).length + (alL (exch q i)).length ≤ 800) := fun i hi hd => Nat.le_trans (dscK_part (by omega) hd) hc
    have HEN : Hid (∀ k, k + 1 = n → if noD q k = true then alL q = [[]] else alL q = alD q (dscK q k)) := fun k hk => noD_end (by omega)
    have HIH := Lib.hid ih
    have HQ := Lib.hid hq
    have HAA := Lib.hid hA
    clear hc ih hq hA
    go_enter Tryz.func72, Tryz.ntmps72
    go_wp2
    go_loopw [3, 4, 5, 7] (fun s3 s4 s5 _ wr => ∃ (k : Nat) (A2 : Option Addr) (c2 : Nat) (S2 : List Sl) (L2 : List (List Int)), k + 1 ≤ n ∧ s5 = .int .i64 (k : Int) ∧ s4 = .bool (noD q k) ∧ L2 = alD q (dscK q k) ∧ s3 = .slice A2 L2.length c2 ∧ OII wr w.heap.size wr.heap.size A2 L2.length c2 L2 S2 ∧ Below w.heap.size w wr) (fun _ _ i _ _ => n - (intOf i).toNat)
    case atStart => exact ⟨0, none, 0, [], [], by omega, rfl, rfl, rfl, rfl, OII.none_ _ _, Below.refl _ _⟩
    case round =>
      obtain ⟨k, A2, c2, S2, L2, hk, rfl, rfl, hL2, rfl, ho2, hb2⟩ := hrel
      obtain ⟨wo, hwo⟩ : ∃ wo, wo = wr := ⟨_, rfl⟩
      subst hwo
      have HO2 := Lib.hid ho2
      have HB2 := Lib.hid hb2
      have HL2 := Lib.hid hL2
      have HAR : Hid (RI wo A n q) := HAA.out.below hb2 (Nat.le_refl _)
      clear ho2 hb2 hL2
      obtain ⟨bq, hbq⟩ : ∃ bq, bq = noD q k := ⟨_, rfl⟩
      have HBQ := Lib.hid hbq
      rw [← hbq]
      clear hbq
      by_cases hlt : k + 1 < n
      · obtain ⟨b, off, e0, _, hcell⟩ := HAR.out.cell (show k < n by omega)
        have hk0 := hcell k (by omega)
        have hk1 := hcell (k + 1) hlt
        subst e0
        have hlti : (k : Int) + 1 < (n : Int) := by omega
        clear hcell
        by_cases hd : gi q (k + 1) < gi q k
        · have HD := Lib.hid hd
          have hpt := HPT.out k hlt hd
          have hinv := ninv_exch q k (by omega) hd
          have HIN : Hid (ninv (exch q k) < M) := Lib.hid (by omega)
          have HCE : Hid (cnt (exch q k) ≤ 800) := Lib.hid (by rw [← alL_cnt]; omega)
          have HRO := Lib.hid (fun j => Nat.le_trans (alL_rows (exch q k) j) (ninv_six (zs := exch q k) (by rw [exch_length, hl]; exact hn)))
          have HPT1 := Lib.hid hpt
          have hd1 : gi q (k + 1) ≤ gi q k := by omega
          clear hpt hinv
          go_wp2
          go_quiet (fail)
          clear hd
          go_wp2_with fail
          refine (alSwap_any _ n c q k _ (HAR.out.drewN _) (by omega) hlt).mono ?_
          rintro e w3 ⟨A3, c3, rfl, o3, hb3⟩
          have HO3 := Lib.hid o3
          have HB3 : Hid (Below wo.heap.size wo w3) := Lib.hid ((below_drewN (Below.refl _ wo) nq).trans hb3)
          clear o3 hb3
          go_wp2_with fail
          refine (HIH.out (exch q k) (ord_perm (exch_perm q k (by omega)).symm HQ.out) (by rw [exch_length]; exact hl) HIN.out HCE.out A3 c3 w3 HO3.out.ri).mono ?_
          rintro e w4 ⟨A4, c4, M4, S4, rfl, o4, hb4⟩
          obtain ⟨E, hE⟩ : ∃ E, E = alL (exch q k) := ⟨_, rfl⟩
          rw [← hE] at o4 HPT1 HRO ⊢
          have HE := Lib.hid hE
          have hEl : E.length ≤ 800 := by have := HPT1.out; omega
          have HR4 := Lib.hid o4.top
          have HG4 := Lib.hid o4.blkLt
          have HA4 := Lib.hid ((HO2.out.below HB3.out).below hb4).top
          have HB4 := Lib.hid ((HB2.out.trans (HB3.out.mono HB2.out.size)).trans (hb4.mono (Nat.le_trans HB2.out.size HB3.out.size)))
          have HF4 : Hid (∀ b, blk A2 = some b → b < w3.heap.size ∨ w4.heap.size ≤ b) := fun b hb => .inl (Nat.lt_of_lt_of_le (HO2.out.blkLt b hb) HB3.out.size)
          obtain ⟨K3, hK3⟩ : ∃ K3, K3 = w3.heap.size := ⟨_, rfl⟩
          obtain ⟨K4, hK4⟩ : ∃ K4, K4 = w4.heap.size := ⟨_, rfl⟩
          rw [← hK3, ← hK4] at HF4
          rw [← hK3, ← hK4] at HR4
          rw [← hK4] at HG4
          have HZ4 := Lib.hid (Nat.le_of_eq hK4)
          clear o4 hb4 hE hK3 hK4 hk0 hk1
          go_wp2
          go_loopw [3, 7, 30] (fun s3 _ s30 wq => ∃ (j : Nat) (A5 : Option Addr) (c5 : Nat) (S5 : List Sl) (L5 : List (List Int)), j ≤ E.length ∧ s30 = .int .i64 (j : Int) ∧ L5 = alD q (dscK q k) ++ (E.take j).map (fun l => (k : Int) :: l) ∧ s3 = .slice A5 L5.length c5 ∧ OII wq w.heap.size wq.heap.size A5 L5.length c5 L5 S5 ∧ OII wq K3 K4 A4 E.length c4 E S4 ∧ (∀ b, blk A5 = some b → b < K3 ∨ K4 ≤ b) ∧ K4 ≤ wq.heap.size ∧ Below w.heap.size w wq) (fun _ _ s30 _ => E.length - (intOf s30).toNat)
          case atStart => exact ⟨0, A2, c2, S2, L2, Nat.zero_le _, rfl, by rw [HL2.out]; simp, rfl, HA4.out, HR4.out, HF4.out, HZ4.out, HB4.out⟩
          case round =>
            obtain ⟨j, A5, c5, S5, L5, hj, rfl, hL5, rfl, ho5, hr5, hf5, hz5, hb5⟩ := hrel
            have HO5 := Lib.hid ho5
            have HR5 := Lib.hid hr5
            have HF5 := Lib.hid hf5
            have HZ5 := Lib.hid hz5
            have HB5 := Lib.hid hb5
            have HL5 := Lib.hid hL5
            have hl5 : L5.length ≤ 1600 := by rw [hL5, List.length_append, List.length_map, List.length_take]; have := HPT1.out; omega
            clear ho5 hf5 hz5 hb5 hL5
            by_cases hlj : j < E.length
            · obtain ⟨g4, a, m, d, rfl, hg4, _, _, hcj, hoi⟩ := hr5.row hlj
              have hm15 : m ≤ 15 := by have := HRO.out j; rw [hoi.1] at this; exact this
              have HMT : Hid (((E.take (j + 1)).map fun l => (k : Int) :: l) = ((E.take j).map fun l => (k : Int) :: l) ++ [(k : Int) :: gz E j]) := mapTake hlj
              obtain ⟨z, hz⟩ : ∃ z, z = gz E j := ⟨_, rfl⟩
              rw [← hz] at HMT hoi
              have HRI := Lib.hid (hoi.ri.alloc (.cells #[.int .i64 (k : Int)] 3))
              have HLT := Lib.hid (OI.one' wr wr.heap.size (k : Int) (Nat.le_refl _))
              have HZW := Lib.hid HB5.out.size
              clear hr5 hoi hz
              go_wp2_with (first
                | (at_builtin; refine wpList_append_ints _ rfl _ _ rfl wr.heap.size (some ⟨wr.heap.size, 0, none⟩) 1 1 [(k : Int)] a m d z rfl rfl HLT.out HRI.out (by omega) (by omega) (by simp) ?_; intro A6 c6 w6 ho6 hg6; have HO6 := Lib.hid ho6; have HA6 := Lib.hid ((HO5.out.alloc (.cells #[.int .i64 (k : Int)] 3)).keptR HLT.out (Nat.le_refl _) hg6); have HR6 := Lib.hid ((HR5.out.alloc (.cells #[.int .i64 (k : Int)] 3)).far (Nat.le_refl _) HG4.out hg6 (fun b hb => by right; have h1 : wr.heap.size = b := Option.some.inj hb; have := HZ5.out; omega)); have HB6 := Lib.hid ((HB5.out.alloc HZW.out (.cells #[.int .i64 (k : Int)] 3)).grown hg6 (by have := HZW.out; simp; omega) (fun b hb => by have h1 : wr.heap.size = b := Option.some.inj hb; have := HZW.out; omega)); have HZ6 := Lib.hid hg6.size; clear ho6 hg6)
                | (at_builtin; refine wpList_append_slA _ rfl _ _ rfl w.heap.size wr.heap.size A5 L5.length c5 L5 S5 A6 (1 + m) c6 _ _ rfl rfl (HA6.out.alloc _) (HO6.out.alloc _) HZW.out (cellNewAt _ _ _ rfl) (by omega) (by have := HZ6.out; have := HZW.out; simp at *; omega) ?_; intro A8 c8 w8 ho8 hg8 hat8; have HO8 := Lib.hid ho8; have HR8 := Lib.hid ((HR6.out.alloc (.cells #[.slice A6 (1 + m) c6] 22)).far (Nat.le_refl _) HG4.out hg8 HF5.out); have HB8 := Lib.hid ((HB6.out.alloc (by have := HZ6.out; have := HZW.out; simp at *; omega) _).grown hg8 (by have := HZ6.out; have := HZW.out; simp at *; omega) (fun b hb => HA6.out.blkB b hb)); have HZ8 := Lib.hid hg8.size; have HF8 : Hid (∀ b, blk A8 = some b → b < K3 ∨ K4 ≤ b) := Lib.hid (fun b hb => by
                    rcases hat8 with h | h
                    · exact HF5.out b (h ▸ hb)
                    · right; rw [h] at hb; have := Option.some.inj hb; have := HZ5.out; have := HZ6.out; simp at *; omega); clear ho8 hg8 hat8)
                | go_in)
              go_roundw
              case rel =>
                exact ⟨j + 1, A8, c8, _, L5 ++ [(k : Int) :: z], by omega, by go_num, by rw [HL5.out, HMT.out, List.append_assoc], by simp, by simpa using HO8.out.top, HR8.out, HF8.out, by have := HZ5.out; have := HZ6.out; have := HZ8.out; simp at *; omega, HB8.out⟩
              case measure => simp [intOf]; omega
            · obtain rfl : j = E.length := by omega
              go_wp2
              go_roundw
              case rel => exact ⟨k + 1, A5, c5, S5, L5, hlt, by go_num, by rw [noD_yes HD.out], by rw [HL5.out, List.take_length, dscK_yes HD.out, alD_append, alD_one, Int.toNat_natCast, ← HE.out], rfl, HO5.out, HB5.out⟩
              case measure => simp [intOf]; omega
        · have HD := Lib.hid hd
          have hd1 : gi q k < gi q (k + 1) := by have := HND.out k (k + 1) (by omega) (by omega); omega
          go_wp2
          go_quiet (fail)
          go_wp2
          go_roundw
          case rel => exact ⟨k + 1, A2, c2, S2, L2, hlt, by go_num, by rw [noD_no (by have := HD.out; omega), HBQ.out], by rw [dscK_no (by have := HD.out; omega), HL2.out], rfl, (HO2.out.drewN _).top, below_drewN HB2.out _⟩
          case measure => simp [intOf]; omega
      · have hen := HEN.out k (by omega)
        rw [← HBQ.out, ← HL2.out] at hen
        have hlti : ¬ (k : Int) + 1 < (n : Int) := by omega
        cases bq
        · have HE := Lib.hid (show alL q = L2 from hen)
          clear hen
          go_wp2
          go_ret
          exact ⟨A2, c2, _, S2, by rw [HE.out]; rfl, by rw [HE.out]; exact HO2.out, HB2.out⟩
        · have HE := Lib.hid (show alL q = [[]] from hen)
          clear hen
          go_wp2
          go_ret
          exact ⟨_, 1, _, _, by rw [HE.out]; rfl, by rw [HE.out]; exact OII.lit0 wo w.heap.size HB2.out.size, HB2.out.alloc HB2.out.size _⟩
end Go.Proofs.YtgeeifjbfceogaaGreatDoor
