/- Idle rungs: mathematics, and the program's split. -/
import Derived.Test.YtbodimhjbbmniaaSo19
namespace Go.Proofs.Ytbodimhjbbmniaa
open Go Go.RowKit Go.Conc

/-- rung a exchanges with one of the first j lists -/
def bsyK (zs : List Int) (L : List (List Int)) : Nat → Nat → Bool
  | 0, _ => false
  | j + 1, a => bsyK zs L j a || decide ((a : Int) ∈ exL zs (gz L j))
/-- .. or is one of the first i exchanges with list j -/
def bsyI (zs : List Int) (L : List (List Int)) (j i a : Nat) : Bool := bsyK zs L j a || decide ((a : Int) ∈ (exL zs (gz L j)).take i)
theorem bsyI_zero (zs : List Int) (L : List (List Int)) (j a : Nat) : bsyI zs L j 0 a = bsyK zs L j a := by simp [bsyI]
theorem bsyI_all (zs : List Int) (L : List (List Int)) (j a : Nat) : bsyI zs L j (exL zs (gz L j)).length a = bsyK zs L (j + 1) a := by simp [bsyI, bsyK]
theorem bsyI_succ {zs : List Int} {L : List (List Int)} {j i : Nat} (h : i < (exL zs (gz L j)).length) (x : Nat) (hx : gi (exL zs (gz L j)) i = (x : Int)) (a : Nat) : bsyI zs L j (i + 1) a = if a = x then true else bsyI zs L j i a := by
  unfold bsyI
  rw [List.take_succ_eq_append_getElem h, ← gi_lt h, hx]
  by_cases e : a = x
  · subst e; simp
  · rw [if_neg e]
    have : ¬ (a : Int) = (x : Int) := by omega
    simp [this]
theorem exL_at {zs vs : List Int} {i : Nat} (h : i < (exL zs vs).length) : ∃ x : Nat, gi (exL zs vs) i = (x : Int) ∧ x < zs.length := by
  have hm : gi (exL zs vs) i ∈ exL zs vs := by rw [gi_lt h]; exact List.getElem_mem h
  obtain ⟨x, h1, h2, _⟩ := mem_exK.1 hm
  exact ⟨x, h1, h2⟩
/-- the idle rungs among the first k, and the others -/
def idK (b : Nat → Bool) (k : Nat) : List Int := ((List.range k).filter fun a => !b a).map fun (a : Nat) => (a : Int)
def otK (zs : List Int) (b : Nat → Bool) (k : Nat) : List Int := ((List.range k).filter b).map (gi zs)
theorem idK_yes {b : Nat → Bool} {k : Nat} (h : b k = true) : idK b (k + 1) = idK b k := by simp [idK, List.range_succ, h]
theorem idK_no {b : Nat → Bool} {k : Nat} (h : b k = false) : idK b (k + 1) = idK b k ++ [(k : Int)] := by simp [idK, List.range_succ, h]
theorem otK_yes {zs : List Int} {b : Nat → Bool} {k : Nat} (h : b k = true) : otK zs b (k + 1) = otK zs b k ++ [gi zs k] := by simp [otK, List.range_succ, h]
theorem otK_no {zs : List Int} {b : Nat → Bool} {k : Nat} (h : b k = false) : otK zs b (k + 1) = otK zs b k := by simp [otK, List.range_succ, h]
theorem idK_le (b : Nat → Bool) (k : Nat) : (idK b k).length ≤ k := by
  unfold idK; rw [List.length_map]; exact Nat.le_trans (List.length_filter_le _ _) (by simp)
theorem otK_le (zs : List Int) (b : Nat → Bool) (k : Nat) : (otK zs b k).length ≤ k := by
  unfold otK; rw [List.length_map]; exact Nat.le_trans (List.length_filter_le _ _) (by simp)
def bsyN (zs : List Int) (n : Nat) : Nat → Bool := bsyK zs (bitsAll n) (2 ^ n)

theorem oiiStepS {wi wj : World} {B M : Nat} {A : Option Addr} {n c : Nat} {zss : List (List Int)} {S : List Sl} (h : Hid (OII wi B M A n c zss S)) (hb : Below wi.heap.size wi wj) : Hid (OII wj B M A n c zss S) := h.out.below hb
theorem rowBelow {wi wj : World} {b t n K : Nat} {f : Nat → Value} (h : wi.rowIs b t n f) (hb : Below K wi wj) (hk : b < K) : wj.rowIs b t n f := by
  obtain ⟨c, hh, hs, hc⟩ := h
  exact ⟨c, (hb.block b hk).trans hh, hs, hc⟩

set_option maxRecDepth 100000 in
set_option maxHeartbeats 4000000 in
theorem splitIdle_any (N : Nat) (A : Option Addr) (m c : Nat) (zs : List Int) (w : World) (h : RI w A m zs) (hn8 : N ≤ 8) (hn0 : 0 < N) (hm6 : m ≤ 60) (hz : rungsIn zs N) :
    Calls Try.prog 54 #[.agg #[.int .i64 (N : Int), .slice A m c]] w fun e w' => ∃ I1 i1 O1 o1, e = .returned (.tuple #[.slice I1 (idK (bsyN zs N) m).length i1, .slice O1 (otK zs (bsyN zs N) m).length o1]) ∧
      OI w' w.heap.size I1 (idK (bsyN zs N) m).length i1 (idK (bsyN zs N) m) ∧ OI w' w.heap.size O1 (otK zs (bsyN zs N) m).length o1 (otK zs (bsyN zs N) m) ∧ Below w.heap.size w w' := by
  have hml := h.1
  have hP2 : 2 ^ N ≤ 256 := pow2_le hn8
  have hbl := bitsAll_length N
  have HAB := Lib.hid (fun w2 => allBits_any N w2 hn8)
  have HZ := Lib.hid hz
  have hbr : ∀ j, j < (bitsAll N).length → (gz (bitsAll N) j).length = N := fun j hj => bitsAll_row (by omega)
  obtain ⟨L, hL⟩ : ∃ L, L = bitsAll N := ⟨_, rfl⟩
  rw [← hL] at HAB hbl hbr
  have HBN : Hid (bsyK zs L L.length = bsyN zs N) := Lib.hid (by rw [hbl, hL]; rfl)
  have HBR := Lib.hid hbr
  have hLl : L.length ≤ 256 := by omega
  have HCD := Lib.hid (fun w2 A2 c2 j (hj : j < L.length) (r : RI w2 A m zs) (r2 : RI w2 A2 N (gz L j)) => compareDown_any A m c zs A2 N c2 (gz L j) w2 r r2 hn8 hn0 hm6 hz)
  clear hz hbr hL hbl hP2
  go_enter Try.func54, Try.ntmps54
  go_wp2_with fail
  have HA0 := boxAlloc (boxNew (W := (N : Int)) (c := c) 28 h) (.cells #[.bool false, .bool false, .bool false, .bool false, .bool false, .bool false, .bool false, .bool false, .bool false, .bool false, .bool false, .bool false, .bool false, .bool false, .bool false, .bool false, .bool false, .bool false, .bool false, .bool false, .bool false, .bool false, .bool false, .bool false, .bool false, .bool false, .bool false, .bool false, .bool false, .bool false, .bool false, .bool false, .bool false, .bool false, .bool false, .bool false, .bool false, .bool false, .bool false, .bool false, .bool false, .bool false, .bool false, .bool false, .bool false, .bool false, .bool false, .bool false, .bool false, .bool false, .bool false, .bool false, .bool false, .bool false, .bool false, .bool false, .bool false, .bool false, .bool false, .bool false] 82)
  have HB0 := belAlloc (belAlloc (belRefl (w := w)) (.cells #[.int .i64 (N : Int), .slice A m c] 28)) (.cells #[.bool false, .bool false, .bool false, .bool false, .bool false, .bool false, .bool false, .bool false, .bool false, .bool false, .bool false, .bool false, .bool false, .bool false, .bool false, .bool false, .bool false, .bool false, .bool false, .bool false, .bool false, .bool false, .bool false, .bool false, .bool false, .bool false, .bool false, .bool false, .bool false, .bool false, .bool false, .bool false, .bool false, .bool false, .bool false, .bool false, .bool false, .bool false, .bool false, .bool false, .bool false, .bool false, .bool false, .bool false, .bool false, .bool false, .bool false, .bool false, .bool false, .bool false, .bool false, .bool false, .bool false, .bool false, .bool false, .bool false, .bool false, .bool false, .bool false, .bool false] 82)
  have HR0 : Hid (((w.alloc (.cells #[.int .i64 (N : Int), .slice A m c] 28)).alloc (.cells #[.bool false, .bool false, .bool false, .bool false, .bool false, .bool false, .bool false, .bool false, .bool false, .bool false, .bool false, .bool false, .bool false, .bool false, .bool false, .bool false, .bool false, .bool false, .bool false, .bool false, .bool false, .bool false, .bool false, .bool false, .bool false, .bool false, .bool false, .bool false, .bool false, .bool false, .bool false, .bool false, .bool false, .bool false, .bool false, .bool false, .bool false, .bool false, .bool false, .bool false, .bool false, .bool false, .bool false, .bool false, .bool false, .bool false, .bool false, .bool false, .bool false, .bool false, .bool false, .bool false, .bool false, .bool false, .bool false, .bool false, .bool false, .bool false, .bool false, .bool false] 82)).rowIs (w.heap.size + 1) 82 60 (fun a => .bool (bsyK zs L 0 a))) := Lib.hid (by
    have h1 := World.rowIs_alloc (w.alloc (.cells #[.int .i64 (N : Int), .slice A m c] 28)) #[.bool false, .bool false, .bool false, .bool false, .bool false, .bool false, .bool false, .bool false, .bool false, .bool false, .bool false, .bool false, .bool false, .bool false, .bool false, .bool false, .bool false, .bool false, .bool false, .bool false, .bool false, .bool false, .bool false, .bool false, .bool false, .bool false, .bool false, .bool false, .bool false, .bool false, .bool false, .bool false, .bool false, .bool false, .bool false, .bool false, .bool false, .bool false, .bool false, .bool false, .bool false, .bool false, .bool false, .bool false, .bool false, .bool false, .bool false, .bool false, .bool false, .bool false, .bool false, .bool false, .bool false, .bool false, .bool false, .bool false, .bool false, .bool false, .bool false, .bool false] 82 (fun _ => .bool false) (by
      intro i hi
      have e : #[.bool false, .bool false, .bool false, .bool false, .bool false, .bool false, .bool false, .bool false, .bool false, .bool false, .bool false, .bool false, .bool false, .bool false, .bool false, .bool false, .bool false, .bool false, .bool false, .bool false, .bool false, .bool false, .bool false, .bool false, .bool false, .bool false, .bool false, .bool false, .bool false, .bool false, .bool false, .bool false, .bool false, .bool false, .bool false, .bool false, .bool false, .bool false, .bool false, .bool false, .bool false, .bool false, .bool false, .bool false, .bool false, .bool false, .bool false, .bool false, .bool false, .bool false, .bool false, .bool false, .bool false, .bool false, .bool false, .bool false, .bool false, .bool false, .bool false, .bool false] = Array.replicate 60 (Value.bool false) := by rfl
      rw [e] at hi ⊢
      simp at hi
      simp [hi])
    simpa [bsyK] using h1)
  obtain ⟨wb, hwb⟩ : ∃ v : World, v = (w.alloc (.cells #[.int .i64 (N : Int), .slice A m c] 28)).alloc (.cells #[.bool false, .bool false, .bool false, .bool false, .bool false, .bool false, .bool false, .bool false, .bool false, .bool false, .bool false, .bool false, .bool false, .bool false, .bool false, .bool false, .bool false, .bool false, .bool false, .bool false, .bool false, .bool false, .bool false, .bool false, .bool false, .bool false, .bool false, .bool false, .bool false, .bool false, .bool false, .bool false, .bool false, .bool false, .bool false, .bool false, .bool false, .bool false, .bool false, .bool false, .bool false, .bool false, .bool false, .bool false, .bool false, .bool false, .bool false, .bool false, .bool false, .bool false, .bool false, .bool false, .bool false, .bool false, .bool false, .bool false, .bool false, .bool false, .bool false, .bool false] 82) := ⟨_, rfl⟩
  rw [← hwb] at HA0 HB0 HR0 ⊢
  have hzb : wb.heap.size = w.heap.size + 2 := by rw [hwb]; simp
  have HZB := Lib.hid hzb
  have HRW := Lib.hid (fun v (hb : Below w.heap.size w v) => h.below hb (Nat.le_refl _))
  clear hwb h hzb
  refine (HAB.out _).mono ?_
  rintro e w1 ⟨A1, c1, M1, S1, rfl, o1, hb⟩
  replace HA0 := boxStep HA0 hb
  replace HB0 := belStep HB0 hb
  replace HR0 := rowStep HR0 hb
  have HL1 : Hid (OII w1 (w.heap.size + 2) M1 A1 L.length c1 L S1) := Lib.hid (by rw [← HZB.out]; exact o1)
  have HZ1 : Hid (w.heap.size + 2 ≤ w1.heap.size) := Lib.hid (by have := hb.size; rw [HZB.out] at this; exact this)
  clear o1 hb
  obtain ⟨K, hK⟩ : ∃ K, K = w1.heap.size := ⟨_, rfl⟩
  have HK : Hid (K = w1.heap.size) := Lib.hid hK
  clear hK
  have hfd := fieldExchanges
  go_wp2
  go_loopw [15] (fun i wr => ∃ j : Nat, j ≤ L.length ∧ i = .int .i64 j ∧ Box wr w.heap.size (N : Int) A m c zs ∧ wr.rowIs (w.heap.size + 1) 82 60 (fun a => .bool (bsyK zs L j a)) ∧ OII wr (w.heap.size + 2) M1 A1 L.length c1 L S1 ∧ Below w.heap.size w wr ∧ K ≤ wr.heap.size) (fun i _ => L.length - (intOf i).toNat)
  case atStart => exact ⟨0, Nat.zero_le _, rfl, HA0.out, HR0.out, HL1.out, HB0.out, Nat.le_of_eq HK.out⟩
  case round =>
    obtain ⟨j, hj, rfl, hA, hR, hL, hb, hKr⟩ := hrel
    obtain ⟨wo, hwo⟩ : ∃ v : World, v = wr := ⟨_, rfl⟩
    subst hwo
    have HA := Lib.hid hA; have HR := Lib.hid hR; have HL := Lib.hid hL; have HB := Lib.hid hb
    have a0 := hA.c0; have a1 := hA.c1; have az := hA.lt
    clear hA hR hb
    by_cases hlt : j < L.length
    · obtain ⟨b, a, n', d, rfl, hbl, hB2, hSj, hck, hra⟩ := hL.row hlt
      obtain rfl : N = n' := by rw [← hra.1]; exact (HBR.out j hlt).symm
      have HRA := Lib.hid hra.ri
      clear hra hL hSj
      go_wp2_with fail
      refine (HCD.out _ _ _ j hlt HA.out.ri HRA.out).mono ?_
      rintro e w2 ⟨G1, g1, E, d1, rfl, -, oE, hb⟩
      replace HA := boxStep HA hb
      replace HB := belStep HB hb
      replace HR := rowStep HR hb
      replace HL := oiiStepS HL hb
      have HE := Lib.hid (oE.mono hKr)
      have HKr2 : Hid (K ≤ w2.heap.size) := Lib.hid (Nat.le_trans hKr hb.size)
      replace a0 := HA.out.c0; replace a1 := HA.out.c1; replace az := HA.out.lt
      have hEl : (exL zs (gz L j)).length ≤ 60 := by
        have := exK_le zs (gz L j) zs.length
        unfold exL; omega
      clear oE hb hck hKr
      go_wp2
      go_loopw [25] (fun i wr => ∃ k : Nat, k ≤ (exL zs (gz L j)).length ∧ i = .int .i64 k ∧ wr.rowIs (w.heap.size + 1) 82 60 (fun a => .bool (bsyI zs L j k a)) ∧ w2.grownBy wr (some (w.heap.size + 1))) (fun i _ => (exL zs (gz L j)).length - (intOf i).toNat)
      case atStart => exact ⟨0, Nat.zero_le _, rfl, HR.out.congr (fun a _ => by rw [bsyI_zero]), grown_refl _ _⟩
      case round =>
        obtain ⟨k, hk, rfl, hR2, hg⟩ := hrel
        have HR2 := Lib.hid hR2
        have HG := Lib.hid hg
        have hp4 : w.heap.size + 1 < K := by have := HZ1.out; have := HK.out; omega
        by_cases hlk : k < (exL zs (gz L j)).length
        · obtain ⟨x, hx, hxl⟩ := exL_at hlk
          obtain ⟨bE, rfl⟩ : ∃ bE, E = some ⟨bE, 0, none⟩ := by
            rcases HE.out.form with ⟨_, _, e1⟩ | ⟨g9, cur, e1, _⟩
            · omega
            · exact ⟨g9, e1⟩
          have hbE := HE.out.blk bE rfl
          have hcE : wr.cell? ⟨bE, k, none⟩ = some (.int .i64 (x : Int)) := by
            have h1 := HE.out.cells k hlk
            rw [hx] at h1
            rw [← h1]
            exact World.cell?_of_block (w := w2) (a := ⟨bE, k, none⟩) (hg.block bE hbE.2 (fun e => by have := Option.some.inj e; omega))
          have hx60 : x < 60 := by omega
          have hd := hR2.cell hx60
          have hf := hR2.frozen x
          have hxi : (x : Int) < 60 := by omega
          have HXX := Lib.hid hx
          clear hR2 hg hx
          go_wp2
          go_roundw
          case rel =>
            refine ⟨k + 1, by omega, by go_num, (HR2.out.set x _).congr (fun a _ => ?_), grown_setCell HG.out (.inl rfl) _⟩
            rw [bsyI_succ hlk x HXX.out]
            by_cases e : a = x
            · rw [if_pos e, if_pos e]
            · rw [if_neg e, if_neg e]
          case measure => simp [intOf]; omega
        · obtain rfl : k = (exL zs (gz L j)).length := by omega
          have hbl : Below (w.heap.size + 1) w2 wr := ⟨hg.os, hg.tape, hg.output, hg.size, fun i hi => hg.block i (by have := HKr2.out; omega) (fun e => by have := Option.some.inj e; omega)⟩
          have HA3 : Hid (Box wr w.heap.size (N : Int) A m c zs) := Lib.hid ⟨(hbl.cell (p := ⟨w.heap.size, 0, none⟩) (Nat.lt_succ_self _)).trans HA.out.c0, (hbl.cell (p := ⟨w.heap.size, 1, none⟩) (Nat.lt_succ_self _)).trans HA.out.c1, HRW.out wr (HB.out.trans (hbl.mono (Nat.le_succ _))), Nat.lt_of_lt_of_le HA.out.lt hg.size⟩
          have HL3 := Lib.hid (HL.out.kept (A' := some ⟨w.heap.size + 1, 0, none⟩) HG.out (fun x hx => by have e9 : w.heap.size + 1 = x := Option.some.inj hx; omega))
          have HB3 : Hid (Below w.heap.size w wr) := Lib.hid (HB.out.trans (hbl.mono (Nat.le_succ _)))
          have HK3 : Hid (K ≤ wr.heap.size) := Lib.hid (Nat.le_trans HKr2.out hg.size)
          clear hR2 hg hbl
          go_wp2
          go_roundw
          case rel => exact ⟨j + 1, by omega, by go_num, HA3.out, HR2.out.congr (fun a _ => by rw [bsyI_all]), HL3.out, HB3.out, HK3.out⟩
          case measure => simp [intOf]; omega
    · obtain rfl : j = L.length := by omega
      have HR9 : Hid (wo.rowIs (w.heap.size + 1) 82 60 (fun a => .bool (bsyN zs N a))) := Lib.hid (HR.out.congr (fun a _ => by rw [HBN.out]))
      obtain ⟨bs, hbs⟩ : ∃ bs, bs = bsyN zs N := ⟨_, rfl⟩
      rw [← hbs] at HR9
      have HBS := Lib.hid hbs
      clear hL hbs
      go_wp2
      go_loopw [2, 3, 36] (fun s2 s3 i wr => ∃ (k : Nat) (I1 : Option Addr) (i1 : Nat) (O1 : Option Addr) (o1 : Nat), k ≤ m ∧ i = .int .i64 k ∧ s2 = .slice I1 (idK bs k).length i1 ∧ s3 = .slice O1 (otK zs bs k).length o1 ∧
        OI wr wo.heap.size I1 (idK bs k).length i1 (idK bs k) ∧ OI wr wo.heap.size O1 (otK zs bs k).length o1 (otK zs bs k) ∧ ApartC I1 O1 ∧ Below wo.heap.size wo wr) (fun _ _ i _ => m - (intOf i).toNat)
      case atStart => exact ⟨0, none, 0, none, 0, Nat.zero_le _, rfl, rfl, rfl, OI.none_ _ _, OI.none_ _ _, fun x hx => by simp [blk] at hx, Below.refl _ _⟩
      case round =>
        obtain ⟨k, I1, i1, O1, o1, hk, rfl, rfl, rfl, hI, hO, hap, hb⟩ := hrel
        have HI := Lib.hid hI; have HO := Lib.hid hO; have HAP := Lib.hid hap; have HBr := Lib.hid hb
        have HBW : Hid (Below w.heap.size w wr) := Lib.hid (HB.out.trans (hb.mono HB.out.size))
        have hzr := hb.size
        have hil := idK_le bs k
        have hol := otK_le zs bs k
        by_cases hlk : k < m
        · have hR3 := (HR9.out)
          have hRr : wr.rowIs (w.heap.size + 1) 82 60 (fun a => .bool (bs a)) := rowBelow hR3 hb (by have := HZ1.out; have := HK.out; omega)
          have hd := hRr.cell (show k < 60 by omega)
          obtain ⟨b, off, rfl, hbw, hc⟩ := (HA.out.ri).cell hlk
          have hck : wr.cell? ⟨b, off + k, none⟩ = some (.int .i64 (gi zs k)) := (hb.cell (p := ⟨b, off + k, none⟩) hbw).trans (hc k hlk)
          have hki : (k : Int) < 60 := by omega
          obtain ⟨q, hq⟩ : ∃ q, q = bs k := ⟨_, rfl⟩
          rw [← hq] at hd
          have HQ := Lib.hid hq
          clear hI hO hap hb hR3 hRr hc hq
          cases q
          · have hx := idK_no HQ.out.symm
            have hy := otK_no (zs := zs) HQ.out.symm
            have HXX := Lib.hid hx
            have HYY := Lib.hid hy
            clear hx hy
            go_wp2_with (at_builtin; refine wpList_append_intL _ rfl _ _ rfl wo.heap.size I1 _ i1 _ (k : Int) wr.heap.size rfl rfl (HI.out.alloc _) (by simp) (by omega) (by simp; omega) ?_; intro E5 d5 w5 ho5 hg5 hl5)
            go_roundw
            case rel =>
              refine ⟨k + 1, E5, d5, O1, o1, by omega, by go_num, by rw [HXX.out, List.length_append, List.length_singleton], by rw [HYY.out], ?_, ?_, ?_, ?_⟩
              · rw [HXX.out, List.length_append, List.length_singleton]; exact ho5
              · rw [HYY.out]; exact (HO.out.alloc _).kept hg5 (fun x hx e => HAP.out x e hx)
              · intro x hx e
                rcases hl5 with h7 | h7
                · exact HAP.out x (h7 ▸ hx) e
                · rw [h7] at hx
                  have h8 := (HO.out.blk x e).2
                  have h9 := Option.some.inj hx
                  simp at h9
                  omega
              · exact (HBr.out.alloc hzr _).trans (ofMark (HI.out.alloc _) hg5 (Nat.le_refl _) (by simp; omega))
            case measure => simp [intOf]; omega
          · have hx := idK_yes HQ.out.symm
            have hy := otK_yes (zs := zs) HQ.out.symm
            have HXX := Lib.hid hx
            have HYY := Lib.hid hy
            clear hx hy
            go_wp2_with (at_builtin; refine wpList_append_intL _ rfl _ _ rfl wo.heap.size O1 _ o1 _ (gi zs k) wr.heap.size rfl rfl (HO.out.alloc _) (by simp) (by omega) (by simp; omega) ?_; intro E5 d5 w5 ho5 hg5 hl5)
            go_roundw
            case rel =>
              refine ⟨k + 1, I1, i1, E5, d5, by omega, by go_num, by rw [HXX.out], by rw [HYY.out, List.length_append, List.length_singleton], ?_, ?_, ?_, ?_⟩
              · rw [HXX.out]; exact (HI.out.alloc _).kept hg5 (fun x hx e => HAP.out x hx e)
              · rw [HYY.out, List.length_append, List.length_singleton]; exact ho5
              · intro x hx e
                rcases hl5 with h7 | h7
                · exact HAP.out x hx (h7 ▸ e)
                · rw [h7] at e
                  have h8 := (HI.out.blk x hx).2
                  have h9 := Option.some.inj e
                  simp at h9
                  omega
              · exact (HBr.out.alloc hzr _).trans (ofMark (HO.out.alloc _) hg5 (Nat.le_refl _) (by simp; omega))
            case measure => simp [intOf]; omega
        · obtain rfl : k = m := by omega
          have hwo := HB.out.size
          clear hI hO hap hb
          go_wp2
          exact bodyPost_ret (v := .tuple #[.slice I1 (idK bs k).length i1, .slice O1 (otK zs bs k).length o1]) (by simp [results, Try.results54]) rfl
            ⟨I1, i1, O1, o1, by rw [HBS.out], by rw [← HBS.out]; exact HI.out.mono hwo, by rw [← HBS.out]; exact HO.out.mono hwo, HBW.out⟩
end Go.Proofs.Ytbodimhjbbmniaa
