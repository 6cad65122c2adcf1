/- The first one of all lists that slides make, as the model makes it. -/
import Derived.Test.YtbilpjlbbglccaaNf3
import Derived.Test.YtbilpjlbbglccaaC1r
namespace Go.Proofs.Ytbilpjlbbglccaa
open Go Go.RowKit

/-- the least that can come to the top, as the model keeps it -/
def bvS (zs : List Int) (k : Nat) : Int := if k = 0 then -1 else (bst zs k : Nat)
theorem bvS_zero (zs : List Int) : bvS zs 0 = -1 := rfl
theorem bvS_pos {zs : List Int} {k : Nat} (h : 0 < k) : bvS zs k = (bst zs k : Nat) := by unfold bvS; rw [if_neg (by omega)]

set_option maxRecDepth 100000 in
set_option maxHeartbeats 2000000 in
theorem lsNormal_any (A : Option Addr) (n c : Nat) (zs : List Int) (w : World) (h : RI w A n zs) (hn : n ≤ 1000) (hI : Small zs) :
    Calls Try.prog 40 #[.slice A n c] w (FreshI w n (nrm zs)) := by
  have hl := h.1
  have HI := Lib.hid hI
  have HA := Lib.hid h
  clear h hI
  go_enter Try.func40, Try.ntmps40
  go_wp2_with fail
  refine (l1Own_any A n c zs _ HA.out (by omega)).mono ?_
  rintro e w1 ⟨P, cp, rfl, hp, hb1⟩
  have HP := Lib.hid hp
  have HB1 := Lib.hid hb1
  clear hp hb1
  go_wp2
  go_loopw [3, 4] (fun s3 s4 wr => ∃ (out left : List Int) (f : Nat) (AO : Option Addr) (co : Nat) (AL : Option Addr) (cl : Nat), s4 = .slice AO out.length co ∧ s3 = .slice AL f cl ∧ NRel zs out left f ∧ OI wr w.heap.size AO out.length co out ∧ RI wr AL f left ∧ f ≤ cl ∧ (0 < f → Apart2 AL AO) ∧ Below w.heap.size w wr) (fun s3 _ _ => lenOf3 s3)
  case atStart =>
    exact ⟨[], zs, n, none, 0, P, cp, rfl, rfl, by have := NRel.start zs; rwa [hl] at this, OI.none_ _ _, HP.out.ri, HP.out.le, fun _ b hb e => by simp [blk] at e, HB1.out⟩
  case round =>
    obtain ⟨out, left, f, AO, co, AL, cl, rfl, rfl, hN, ho, hr, hfc, hap, hb⟩ := hrel
    have HN := Lib.hid hN
    have HO := Lib.hid ho
    have HR := Lib.hid hr
    have HB := Lib.hid hb
    have HAP := Lib.hid hap
    have hfl : left.length = f := hr.1
    have hcnt : out.length + f = n := by rw [hN.cnt, hl]
    clear hN ho hb hap
    rcases Nat.eq_zero_or_pos f with h0 | h0
    · subst h0
      have e := HN.out.stop
      clear hr
      go_wp2
      go_ret
      have hon : out.length = n := by omega
      exact ⟨AO, co, by rw [hon]; rfl, by rw [← e]; rw [← hon]; exact HO.out, HB.out⟩
    · obtain ⟨b, off, rfl, hbw, hc⟩ := hr.2 h0
      have HSM := Lib.hid (HI.out.sub HN.out.sub)
      have HCC := Lib.hid hc
      clear hc hr
      go_wp2_with fail
      go_loop [5, 18] (fun s5 s18 => ∃ k : Nat, k ≤ f ∧ s18 = .int .i64 k ∧ s5 = .int .i64 (bvS left k)) (fun _ s18 => f - (intOf s18).toNat)
      case atStart => exact ⟨0, Nat.zero_le _, rfl, rfl⟩
      case round =>
        obtain ⟨k, hk, rfl, rfl⟩ := hrel
        by_cases hlt : k < f
        · have hck := HCC.out k hlt
          have hsk := HSM.out k (by omega)
          have i0 : (0 : Int) ≤ (k : Int) := by omega
          have i1 : (k : Int) ≤ (cl : Int) := by omega
          go_wp2_with fail
          go_loop [8, 27] (fun s8 s27 => ∃ m : Nat, m ≤ k ∧ s27 = .int .i64 m ∧ s8 = .bool (freeK left (gi left k) m)) (fun _ s27 => f - (intOf s27).toNat)
          case atStart => exact ⟨0, Nat.zero_le _, rfl, rfl⟩
          case round =>
            obtain ⟨m, hm, rfl, rfl⟩ := hrel
            by_cases hlm : m < k
            · have hcm := HCC.out m (by omega)
              have hsm := HSM.out m (by omega)
              have hsub : IntKind.i64.wrap (gi left m - gi left k) = gi left m - gi left k := IntWalk.i64_in _ (by omega)
              rcases hfq : freeK left (gi left k) m with _ | _
              · have HF := Lib.hid hfq
                clear hfq
                go_wp2
                go_round
                case rel => exact ⟨m + 1, by omega, by go_num, by simp [freeK, HF.out]⟩
                case measure => simp [intOf]; omega
              · have HF := Lib.hid hfq
                clear hfq
                have hd9 : -10 ≤ gi left m - gi left k ∧ gi left m - gi left k ≤ 10 := by omega
                by_cases hfr : 2 ≤ absd (gi left m - gi left k)
                · have HFR := Lib.hid hfr
                  go_wp2_with (go_at_call 57; refine (l1Abs_any _ _ hd9).mono ?_; rintro e w3 ⟨rfl, hw3⟩; replace hw3 := hw3.symm; subst hw3)
                  go_round
                  case rel => exact ⟨m + 1, by omega, by go_num, by rw [freeK_next HF.out (far_yes (by have := HFR.out; omega))]⟩
                  case measure => simp [intOf]; omega
                · have HFR := Lib.hid hfr
                  have hfr2 : absd (gi left m - gi left k) < 2 := by omega
                  go_wp2_with (go_at_call 57; refine (l1Abs_any _ _ hd9).mono ?_; rintro e w3 ⟨rfl, hw3⟩; replace hw3 := hw3.symm; subst hw3)
                  go_round
                  case rel => exact ⟨m + 1, by omega, by go_num, by rw [freeK_no (i := m) (m + 1) (by omega) (far_no (by have := HFR.out; omega))]; first | rfl | (congr 1; first | exact decide_eq_false (by have := HFR.out; omega) | (simp; have := HFR.out; omega))⟩
                  case measure => simp [intOf]; omega
            · obtain rfl : m = k := by omega
              rcases hfq : freeK left (gi left m) m with _ | _
              · have HF := Lib.hid hfq
                have hm0 : 0 < m := by
                  rcases Nat.eq_zero_or_pos m with e | e
                  · subst e; simp [freeK] at hfq
                  · exact e
                clear hfq
                go_wp2
                go_round
                case rel => exact ⟨m + 1, by omega, by go_num, by rw [bvS_pos hm0, bvS_pos (Nat.succ_pos m), bst_keep (fun h => by rw [HF.out] at h; exact absurd h.1 (by simp))]⟩
                case measure => simp [intOf]; omega
              · have HF := Lib.hid hfq
                clear hfq
                rcases Nat.eq_zero_or_pos m with hm0 | hm0
                · subst hm0
                  rw [bvS_zero]
                  go_wp2
                  go_round
                  case rel => exact ⟨1, by omega, by go_num, by rw [bvS_pos (Nat.succ_pos 0), bst_one]⟩
                  case measure => simp [intOf]; omega
                · rw [bvS_pos hm0]
                  have hbq := bst_le (zs := left) (k := m) (n := f) (by omega) h0
                  obtain ⟨q, hq⟩ : ∃ q, q = bst left m := ⟨_, rfl⟩
                  have HQ := Lib.hid hq
                  rw [← hq] at hbq ⊢
                  clear hq
                  have hcq := HCC.out q hbq
                  have i5 : ¬ (q : Int) < 0 := by omega
                  have i6 : (0 : Int) ≤ (q : Int) := by omega
                  by_cases hge : gi left m < gi left q
                  · have HG := Lib.hid hge
                    go_wp2
                    go_round
                    case rel => exact ⟨m + 1, by omega, by go_num, by rw [bvS_pos (Nat.succ_pos m), bst_new HF.out (by rw [← HQ.out]; exact HG.out)]⟩
                    case measure => simp [intOf]; omega
                  · have HG := Lib.hid hge
                    have hge2 : gi left q ≤ gi left m := by omega
                    go_wp2
                    go_round
                    case rel => exact ⟨m + 1, by omega, by go_num, by rw [bvS_pos (Nat.succ_pos m), bst_keep (fun h => by have := h.2; have := HG.out; rw [← HQ.out] at *; omega), ← HQ.out]⟩
                    case measure => simp [intOf]; omega
        · obtain rfl : k = f := by omega
          rw [bvS_pos h0]
          obtain ⟨f2, hf2⟩ : ∃ f2, k = f2 + 1 := ⟨k - 1, by omega⟩
          have HNS : Hid (NRel zs (out ++ [gi left (bst left left.length)]) (left.eraseIdx (bst left left.length)) f2) := NRel.step (by rw [← hf2]; exact HN.out)
          have hbl := bst_in (zs := left) (by omega)
          rw [hfl] at hbl HNS
          obtain ⟨p, hp⟩ : ∃ p, p = bst left k := ⟨_, rfl⟩
          rw [← hp] at HNS hbl ⊢
          clear hp
          have HS := HNS
          have hcp := HCC.out p hbl
          have i0 : (0 : Int) ≤ (p : Int) := by omega
          have i1 : (p : Int) < (k : Int) := by omega
          have hapn : ∀ x, blk AO = some x → x ≠ b := fun x hx e => by
            have := HAP.out h0 b (by simp [blk])
            rw [hx, e] at this; exact this rfl
          have HAPN := Lib.hid hapn
          have HF2 := Lib.hid hf2
          clear hapn HNS hf2
          by_cases hcc : cl = p + 1
          · have hkp : k = p + 1 := by omega
            subst hcc
            subst hkp
            have s1 : IntKind.i64.wrap ((p : Int) + 1) = (p : Int) + 1 := IntWalk.i64_in _ (by omega)
            have s2 : (0 : Int) ≤ (p : Int) + 1 := by omega
            have s3 : ((p : Int) + 1).toNat = p + 1 := by omega
            have S1 := Lib.hid s1
            have j1 : (p : Int) ≤ (p : Int) + 1 := by omega
            have j4 : (p : Int) < (p : Int) + 1 := by omega
            have j5 : (p : Int) ≤ ((p + 1 : Nat) : Int) := by omega
            have j6 : (p : Int) + 1 ≤ ((p + 1 : Nat) : Int) := by omega
            have j7 : (0 : Int) ≤ ((p + 1 : Nat) : Int) := by omega
            clear s1 s3
            go_wp2_with (at_builtin; refine wpList_append_ints _ rfl _ _ rfl w.heap.size AO out.length co out (some ⟨wr.heap.size, 0, none⟩) 1 1 [gi left p] rfl rfl (HO.out.alloc _) (RI.single' _ _) (by omega) (by omega) (by have := HB.out.size; simp; omega) ?_; intro A2 c2 w2 ho2 hg2; have HO2 := Lib.hid ho2; have HG2 := Lib.hid hg2; have HB2 := belGrown (belAlloc HB _) (HO.out.alloc _) hg2 (Nat.le_refl _); have HR2 : Hid (RI w2 (some ⟨b, off, none⟩) (p + 1) left) := RI.kept (HR.out.alloc _) hg2 (fun x hx e => HAPN.out x e (by simp [blk] at hx; exact hx.symm)); clear ho2 hg2)
            have s1 := S1.out
            have s3 : ((p : Int) + 1).toNat = p + 1 := by omega
            have HTK := Lib.hid (HR2.out.take (k := p) (by omega))
            go_region_held3 (fun _ => True) (trivial)
              (first
                | (go_at_call 56; refine (l1Own_any (some ⟨b, off, none⟩) p _ (left.take p) _ (by exact HTK.out) (by omega)).mono ?_; rintro e w3 ⟨A3, c3, rfl, o3, hb⟩; have b3 : Hid (Below w2.heap.size w2 w3) := Below.trans (by repeat (first | exact Below.refl _ _ | refine Below.alloc ?_ (by simp) _ | refine below_drewN ?_ _ | refine Below.drew ?_)) (hb.mono (by first | exact Nat.le_refl _ | simp)); have O3 : Hid (OI w3 w2.heap.size A3 p c3 (left.take p)) := o3; have R3 : Hid (RI w3 (some ⟨b, off, none⟩) (p + 1) left) := HR2.out.below b3.out (Nat.le_refl _); clear hb o3)
                | (refine step_append_ints _ rfl (.tmp 65) (.tmp 69) rfl w2.heap.size A3 p c3 (left.take p) (some ⟨b, off, none⟩) 0 0 [] rfl rfl O3.out (RI.empty _ (some ⟨b, off, none⟩)) (by omega) (by omega) b3.out.size ?_; intro A4 c4 w4 ho4 hg4; have b4 : Hid (Below w2.heap.size w2 w4) := b3.out.trans (ofMark O3.out hg4 (Nat.le_refl _) b3.out.size); have O4 := Lib.hid ho4; clear ho4 hg4))
            go_wp2
            go_roundw
            case rel =>
              have hX : left.take p ++ [] = left.eraseIdx p := by rw [List.eraseIdx_eq_take_drop_succ]; rw [List.drop_eq_nil_of_le (by omega)]
              have o4 := O4.out
              rw [hX] at o4
              have HO4 : OI w4 w.heap.size A2 (out.length + 1) c2 (out ++ [gi left p]) := HO2.out.below b4.out
              have HB4 : Below w.heap.size w w4 := HB2.out.trans (b4.out.mono HB2.out.size)
              have hf2 := HF2.out
              have hlen : p + 0 = p := by omega
              rw [hlen] at o4
              refine ⟨out ++ [gi left p], left.eraseIdx p, p, A2, c2, A4, c4, by simp, by rw [← hlen], by have := HS.out; rwa [show f2 = p by omega] at this, by simpa using HO4, o4.ri, o4.le, fun _ x hx e => ?_, HB4⟩
              have h1 := (o4.blk x hx).1
              have h2 := (HO2.out.blk x e).2
              omega
            case measure => simp [lenOf3] <;> omega
          · have s1 : IntKind.i64.wrap ((p : Int) + 1) = (p : Int) + 1 := IntWalk.i64_in _ (by omega)
            have s2 : (0 : Int) ≤ (p : Int) + 1 := by omega
            have s3 : ((p : Int) + 1).toNat = p + 1 := by omega
            have S1 := Lib.hid s1
            have j1 : (k : Int) ≤ (cl : Int) := by omega
            have j2 : (p : Int) + 1 ≤ (k : Int) := by omega
            have j3 : ¬ cl = p + 1 := hcc
            have j6 : ¬ cl = p := by omega
            have j7 : (p : Int) ≤ (cl : Int) := by omega
            clear s1 s3
            go_wp2_with (at_builtin; refine wpList_append_ints _ rfl _ _ rfl w.heap.size AO out.length co out (some ⟨wr.heap.size, 0, none⟩) 1 1 [gi left p] rfl rfl (HO.out.alloc _) (RI.single' _ _) (by omega) (by omega) (by have := HB.out.size; simp; omega) ?_; intro A2 c2 w2 ho2 hg2; have HO2 := Lib.hid ho2; have HG2 := Lib.hid hg2; have HB2 := belGrown (belAlloc HB _) (HO.out.alloc _) hg2 (Nat.le_refl _); have HR2 : Hid (RI w2 (some ⟨b, off, none⟩) k left) := RI.kept (HR.out.alloc _) hg2 (fun x hx e => HAPN.out x e (by simp [blk] at hx; exact hx.symm)); clear ho2 hg2)
            have s1 := S1.out
            have s3 : ((p : Int) + 1).toNat = p + 1 := by omega
            have HTK := Lib.hid (HR2.out.take (k := p) (by omega))
            go_region_held3 (fun _ => True) (trivial)
              (first
                | (go_at_call 56; refine (l1Own_any (some ⟨b, off, none⟩) p _ (left.take p) _ (by exact HTK.out) (by omega)).mono ?_; rintro e w3 ⟨A3, c3, rfl, o3, hb⟩; have b3 : Hid (Below w2.heap.size w2 w3) := Below.trans (by repeat (first | exact Below.refl _ _ | refine Below.alloc ?_ (by simp) _ | refine below_drewN ?_ _ | refine Below.drew ?_)) (hb.mono (by first | exact Nat.le_refl _ | simp)); have O3 : Hid (OI w3 w2.heap.size A3 p c3 (left.take p)) := o3; have R3 : Hid (RI w3 (some ⟨b, off, none⟩) k left) := HR2.out.below b3.out (Nat.le_refl _); clear hb o3)
                | (refine step_append_ints _ rfl (.tmp 65) (.tmp 69) rfl w2.heap.size A3 p c3 (left.take p) (some ⟨b, off + (p + 1), none⟩) (k - (p + 1)) (cl - (p + 1)) (left.drop (p + 1)) rfl rfl O3.out (R3.out.drop (k := p + 1) (by omega)) (by omega) (by omega) b3.out.size ?_; intro A4 c4 w4 ho4 hg4; have b4 : Hid (Below w2.heap.size w2 w4) := b3.out.trans (ofMark O3.out hg4 (Nat.le_refl _) b3.out.size); have O4 := Lib.hid ho4; clear ho4 hg4))
            go_wp2
            go_roundw
            case rel =>
              have hX : left.take p ++ left.drop (p + 1) = left.eraseIdx p := by rw [List.eraseIdx_eq_take_drop_succ]
              have o4 := O4.out
              rw [hX] at o4
              have HO4 : OI w4 w.heap.size A2 (out.length + 1) c2 (out ++ [gi left p]) := HO2.out.below b4.out
              have HB4 : Below w.heap.size w w4 := HB2.out.trans (b4.out.mono HB2.out.size)
              have hf2 := HF2.out
              have hlen : p + (k - (p + 1)) = k - 1 := by omega
              rw [hlen] at o4
              refine ⟨out ++ [gi left p], left.eraseIdx p, k - 1, A2, c2, A4, c4, by simp, by rw [← hlen], by have := HS.out; rwa [show f2 = k - 1 by omega] at this, by simpa using HO4, o4.ri, o4.le, fun _ x hx e => ?_, HB4⟩
              have h1 := (o4.blk x hx).1
              have h2 := (HO2.out.blk x e).2
              omega
            case measure => simp [lenOf3] <;> omega
end Go.Proofs.Ytbilpjlbbglccaa
