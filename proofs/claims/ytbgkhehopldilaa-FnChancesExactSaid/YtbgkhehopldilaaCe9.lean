/- The counts for ladders with k more rungs, from some starts. -/
import Derived.Test.YtbgkhehopldilaaCe8
import Derived.Test.YtbgkhehopldilaaCe2
namespace Go.Proofs.Ytbgkhehopldilaa
open Go Go.RowKit Go.Maps

/-- a map with the counts for K rungs more: the map that came in, or a new one -/
def BehPost (n : Nat) (B : Nat) (D : DataW Unit) (K : Nat) (w : World) (x : Ending) (w' : World) : Prop :=
  ∃ b D', x = .returned (.map (some b)) ∧ (b = B ∨ w.heap.size ≤ b) ∧ OE w' b (Maps.size D') D' ∧ Gm n D' ∧ (∀ f, W f D' = W (ups ovE (n - 1) K f) D) ∧ Below w.heap.size w w'
theorem W_ups_one (n j : Nat) : ∀ (D : DataW Unit), W (ups ovE (n - 1) j one) D = (n - 1) ^ j * W one D := by
  intro D
  show W (ups ovE (n - 1) j (fun _ => 1)) D = _
  rw [ups_const]
  unfold W wt wtL
  rw [← ssum_mul]
  refine ssum_congr fun p _ => ?_
  show gE (fun _ => (n - 1) ^ j * 1) p.1 * valN p.2 = (n - 1) ^ j * (gE one p.1 * valN p.2)
  rw [← Nat.mul_assoc]
  congr 1
  unfold gE one
  split <;> rfl

set_option maxRecDepth 100000 in
set_option maxHeartbeats 4000000 in
theorem behind_any (n B nb K : Nat) (D : DataW Unit) (w : World) (hn2 : 2 ≤ n) (hn : n ≤ 6) (hown : OE w B nb D) (hG : Gm n D) (htot : (n - 1) ^ K * W one D ≤ 95367431640625) (hK : K ≤ 20) :
    Calls Try.prog 43 #[.map (some B), .int .i64 (n : Int), .int .i64 (K : Int)] w (BehPost n B D K w) := by
  have HO := Lib.hid hown
  have HG := Lib.hid hG
  have HT := Lib.hid htot
  clear hown hG htot
  go_enter Try.func43, Try.ntmps43
  go_wp2
  go_loopw [0, 8] (fun s0 s8 wi => ∃ (j b : Nat) (D' : DataW Unit), j ≤ K ∧ s8 = .int .i64 (j : Int) ∧ s0 = .map (some b) ∧ (b = B ∨ w.heap.size ≤ b) ∧ OE wi b (Maps.size D') D' ∧ Gm n D' ∧ (∀ f, W f D' = W (ups ovE (n - 1) j f) D) ∧ Below w.heap.size w wi) (fun _ s8 _ => K - (intOf s8).toNat)
  case atStart => exact ⟨0, B, D, Nat.zero_le _, rfl, rfl, .inl rfl, HO.out.tight, HG.out, fun _ => rfl, Below.refl _ _⟩
  case round =>
    obtain ⟨j, b, D', hj, rfl, rfl, hbb, hom, hgd, hwg, hbel⟩ := hrel
    have HBB := Lib.hid hbb
    have HOM := Lib.hid hom
    have HGD := Lib.hid hgd
    have HWG := Lib.hid hwg
    have HBEL := Lib.hid hbel
    clear hbb hom hgd hwg hbel
    by_cases hlt : (j : Int) < (K : Int)
    · have htj : (n - 1) * W one D' ≤ 95367431640625 := by
        rw [HWG.out, W_ups_one, ← Nat.mul_assoc, show (n - 1) * (n - 1) ^ j = (n - 1) ^ (j + 1) from (Nat.pow_succ' ..).symm]
        have h1 : (n - 1) ^ (j + 1) ≤ (n - 1) ^ K := Nat.pow_le_pow_right (by omega) (by omega)
        exact Nat.le_trans (Nat.mul_le_mul_right _ h1) HT.out
      have HLO := Lib.hid (longer_any n b _ D' wr hn2 hn HOM.out HGD.out htj)
      clear htj
      go_wp2_with fail
      refine HLO.out.mono ?_
      rintro e w1 ⟨b1, D1, rfl, hb1, ho1, hg1, hw1, hbel1⟩
      have HO1 := Lib.hid ho1
      have HG1 := Lib.hid hg1
      have HW1 := Lib.hid hw1
      have HB1 : Hid (Below w.heap.size w w1) := Lib.hid (HBEL.out.trans (hbel1.mono HBEL.out.size))
      have hz := HBEL.out.size
      clear ho1 hg1 hw1 hbel1 HLO
      go_wp2
      go_roundw
      case rel => exact ⟨j + 1, b1, D1, by omega, by go_num, rfl, .inr (by omega), HO1.out, HG1.out, fun f => by rw [HW1.out, HWG.out]; rfl, HB1.out⟩
      case measure => simp [intOf]; omega
    · obtain rfl : j = K := by omega
      go_wp2
      go_ret
      exact ⟨b, D', rfl, HBB.out, HOM.out, HGD.out, HWG.out, HBEL.out⟩

/-- a new map with the counts of the ends of zs -/
def FallPost (n : Nat) (zs : List Int) (K : Nat) (w : World) (x : Ending) (w' : World) : Prop :=
  ∃ b D', x = .returned (.map (some b)) ∧ w.heap.size ≤ b ∧ OE w' b (Maps.size D') D' ∧ Gm n D' ∧ (∀ f, W f D' = ups ovE (n - 1) K f (endsL zs)) ∧ Below w.heap.size w w'
theorem put_one (e : List Int) : (DataW.map []).put (eL e) (.lit (.int .i64 1)) = addTo (.map []) (eL e) 1 := by
  unfold addTo at0
  rw [atKey_map]
  simp [valN, nd]

set_option maxRecDepth 100000 in
set_option maxHeartbeats 4000000 in
theorem fallFrom_any (n K : Nat) (A : Option Addr) (m c : Nat) (zs : List Int) (w : World) (hn2 : 2 ≤ n) (hn : n ≤ 6) (hK : K ≤ 20) (h : RI w A m zs) (hm : m ≤ 6) (hz : ∀ x ∈ zs, 0 ≤ x ∧ x < (n : Int)) :
    Calls Try.prog 34 #[.int .i64 (n : Int), .int .i64 (K : Int), .slice A m c] w (FallPost n zs K w) := by
  have hmm := @run_makeMap Try.prog
  have HE : Hid (OKE n (endsL zs)) := Lib.hid (OKE.ends hz (by omega))
  have HEN := Lib.hid (endsOf_any A m c zs (w.alloc (.map #[] 0)) (h.alloc _) hm)
  obtain ⟨E, hE⟩ : ∃ E, E = endsL zs := ⟨_, rfl⟩
  rw [← hE] at HE HEN
  have HEE := Lib.hid hE
  have hpow : (n - 1) ^ K ≤ 95367431640625 := pow5 (by omega) hK
  clear h hz hE
  go_enter Try.func34, Try.ntmps34
  go_wp2_with fail
  refine HEN.out.mono ?_
  rintro e w1 ⟨rfl, hb1⟩
  have HM1 : Hid (OE w1 w.heap.size 0 (.map [])) := Lib.hid ((World.ownsMap_made w _ _ _).kept (grown_of_below hb1 none) (by simp))
  have HB1 : Hid (Below w.heap.size w w1) := Lib.hid (((Below.refl _ w).alloc (Nat.le_refl _) _).trans (hb1.mono (by simp)))
  clear hb1 HEN
  go_wp2_with (first
    | (refine wpList_insert_own _ rfl _ _ _ 58 rfl 60 3 keyE Try.underlying58 _ w.heap.size 0 _ rfl HM1.out (by decide) _ _ _ rfl rfl (key_of HE.out hn) _ [] (plainElem_int Try.underlying3 (by decide)) ?_; intro w2 ho2 hg2))
  rw [put_one] at ho2
  have hg : Gm n (addTo (.map []) (eL E) 1) := (Gm.empty n).add HE.out (by omega)
  have hw : ∀ f, W f (addTo (.map []) (eL E) 1) = f E := fun f => by rw [W_add (Gm.empty n) hn f HE.out, W_nil]; omega
  have HB2 : Hid (Below w.heap.size w w2) := Lib.hid (HB1.out.grown hg2 HB1.out.size (fun j hj => by injection hj with hj; omega))
  have HBE := Lib.hid (behind_any n w.heap.size _ K _ w2 hn2 hn ho2 hg (by rw [hw]; show (n - 1) ^ K * 1 ≤ _; omega) hK)
  have HW := Lib.hid hw
  clear ho2 hg2 hg hw
  go_wp2_with fail
  refine HBE.out.mono ?_
  rintro e w3 ⟨b, D', rfl, hb, ho3, hg3, hw3, hb3⟩
  have hz2 := HB2.out.size
  go_wp2
  go_ret
  exact ⟨b, D', rfl, by omega, ho3, hg3, fun f => by rw [hw3, HW.out, HEE.out], HB2.out.trans (hb3.mono hz2)⟩
def single (e : List Int) : List Int → Nat := fun x => if x = e then 1 else 0
theorem wtL_zero (g : Lit → Nat) : ∀ (es : List (Lit × DataW Unit)), (∀ p ∈ es, g p.1 = 0) → wtL g es = 0
  | [], _ => rfl
  | p :: r, h => by rw [wtL_cons, h p (by simp), Nat.zero_mul, wtL_zero g r (fun q hq => h q (by simp [hq]))]
theorem W_single {n : Nat} {D : DataW Unit} (h : Gm n D) (hn : n ≤ 6) {e : List Int} (he : OKE n e) : W (single e) D = at0 D (eL e) := by
  obtain ⟨⟨es, rfl, hp⟩, hE⟩ := h
  have h1 := wtL_split (gE (single e)) (eL e) es hp
  have h2 : wtL (gE (single e)) (es.filter fun p => !p.1.sameKey (eL e)) = 0 := wtL_zero _ _ fun p hpf => by
    have hm := List.mem_filter.1 hpf
    obtain ⟨q, c, h3, h4, _, _⟩ := hE p hm.1
    rw [h4, gE_at _ h3 hn]
    unfold single
    rw [if_neg]
    rintro rfl
    rw [h4, eL_same] at hm
    simp at hm
  have h3 : gE (single e) (eL e) = 1 := by rw [gE_at _ he hn]; unfold single; rw [if_pos rfl]
  rw [h2, h3, Nat.zero_add, Nat.one_mul] at h1
  unfold at0
  rw [atKey_map]
  exact h1.symm
end Go.Proofs.Ytbgkhehopldilaa
