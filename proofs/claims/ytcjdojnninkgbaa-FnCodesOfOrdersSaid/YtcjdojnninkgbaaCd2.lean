/- The code of an order, as the model and the program write it. -/
import Derived.Test.YtcjdojnninkgbaaIv2
import Derived.Test.YtcjdojnninkgbaaMgJ
namespace Go.Proofs.Ytcjdojnninkgbaa
open Go Go.RowKit

/-- how often j is the first number of the first m pairs -/
def cF (L : List (List Int)) (m j : Nat) : Nat := ((L.take m).map (fun x => gi x 0)).count (j : Int)
theorem cF_zero (L : List (List Int)) (j : Nat) : cF L 0 j = 0 := by simp [cF]
theorem cF_le (L : List (List Int)) (m j : Nat) : cF L m j ≤ m := by
  unfold cF
  refine Nat.le_trans List.count_le_length ?_
  simp; omega
theorem cF_succ {L : List (List Int)} {m : Nat} (h : m < L.length) (j : Nat) : cF L (m + 1) j = cF L m j + if gi (gz L m) 0 = (j : Int) then 1 else 0 := by
  have e : L.take (m + 1) = L.take m ++ [gz L m] := by
    rw [List.take_succ_eq_append_getElem h]
    simp [gz, List.getD, h]
  unfold cF
  rw [e, List.map_append, List.count_append]
  congr 1
  by_cases hq : gi (gz L m) 0 = (j : Int)
  · rw [if_pos hq]; simp [hq]
  · rw [if_neg hq]; simp [hq]
theorem rowP_first (zs : List Int) (i : Nat) : ∀ m, (rowP zs i m).map (fun x => gi x 0) = List.replicate (cntB zs i m) (i : Int)
  | 0 => rfl
  | m + 1 => by
    simp only [rowP, cntB, List.map_append]
    rw [rowP_first zs i m]
    split
    · rw [List.replicate_succ']; simp [gi]
    · simp
theorem invK_count (zs : List Int) (j : Nat) : ∀ k, ((invK zs k).map (fun x => gi x 0)).count (j : Int) = if j < k then cntB zs j (zs.length - (j + 1)) else 0
  | 0 => by simp [invK]
  | k + 1 => by
    simp only [invK, List.map_append, List.count_append]
    rw [invK_count zs j k, rowP_first, List.count_replicate]
    by_cases e : j = k
    · subst e; simp
    · have e2 : ((k : Int) == (j : Int)) = false := by rw [beq_eq_false_iff_ne]; omega
      rw [e2]
      by_cases h1 : j < k
      · simp [h1, show j < k + 1 by omega]
      · simp [h1, show ¬ j < k + 1 by omega]
theorem cF_all {zs : List Int} {j : Nat} (h : j < zs.length) : cF (invs zs) (invs zs).length j = cntB zs j (zs.length - (j + 1)) := by
  unfold cF
  rw [List.take_length]
  unfold invs
  rw [invK_count, if_pos h]
theorem gi_codeK {zs : List Int} {j : Nat} : ∀ {k : Nat}, j < k → gi (codeK zs k) j = (cntB zs j (zs.length - (j + 1)) : Int)
  | 0, h => absurd h (by omega)
  | k + 1, h => by
    simp only [codeK]
    by_cases e : j = k
    · subst e; simp [gi, List.getD, codeK_len]
    · have := gi_codeK (zs := zs) (j := j) (k := k) (by omega)
      rw [← this]
      simp only [gi, List.getD]
      rw [List.getElem?_append_left (by rw [codeK_len]; omega)]
/-- each pair of inversions: its first number is a place -/
theorem invK_first {zs : List Int} {x : List Int} : ∀ k, x ∈ invK zs k → 0 ≤ gi x 0 ∧ gi x 0 < k
  | 0, h => by simp [invK] at h
  | k + 1, h => by
    simp only [invK, List.mem_append] at h
    rcases h with h | h
    · have := invK_first k h; omega
    · have : ∀ m, x ∈ rowP zs k m → gi x 0 = (k : Int) := by
        intro m
        induction m with
        | zero => intro h; simp [rowP] at h
        | succ m ih =>
          intro h
          simp only [rowP, List.mem_append] at h
          rcases h with h | h
          · exact ih h
          · split at h
            · simp at h; subst h; rfl
            · simp at h
      have := this _ h
      omega
theorem invs_first {zs : List Int} {m : Nat} (h : m < (invs zs).length) : ∃ i : Nat, gi (gz (invs zs) m) 0 = (i : Int) ∧ i < zs.length ∧ (gz (invs zs) m).length = 2 := by
  have hm : gz (invs zs) m ∈ invs zs := by
    have e : gz (invs zs) m = (invs zs)[m] := by simp [gz, List.getD, h]
    rw [e]; exact List.getElem_mem h
  have h1 := invK_first _ hm
  exact ⟨(gi (gz (invs zs) m) 0).toNat, by omega, by omega, invK_two _ hm⟩

def codeN (zs : List Int) : List Int := if ord zs = true then codeL zs else []
theorem codeN_yes {zs : List Int} (h : ord zs = true) : codeN zs = codeL zs := by unfold codeN; rw [if_pos h]
theorem codeN_no {zs : List Int} (h : ord zs = false) : codeN zs = [] := by unfold codeN; rw [h]; rfl
theorem codeN_len (zs : List Int) : (codeN zs).length ≤ 1000 := by
  rcases h : ord zs with _ | _
  · rw [codeN_no h]; simp
  · rw [codeN_yes h]
    have h8 := (ord_iff.1 h).2.1
    unfold codeL
    rw [codeK_len]; omega

set_option maxRecDepth 100000 in
set_option maxHeartbeats 4000000 in
theorem sCodeOf_any (A0 : Option Addr) (n c0 : Nat) (zs : List Int) (w : World) (h : RI w A0 n zs) (hn : n ≤ 1048576) (hnc : n ≤ c0) :
    Calls Try.prog 7 #[.slice A0 n c0] w (FreshIB w (codeN zs).length (codeN zs) (ord zs)) := by
  have hl := h.1
  rcases hq : ord zs with _ | _
  · rw [codeN_no hq]
    have HW := Lib.hid hq
    clear hq
    go_enter Try.func7, Try.ntmps7
    go_wp2_with fail
    refine (laOrder_any A0 n c0 zs _ h hn hnc).mono ?_
    rw [HW.out]
    rintro e w1 ⟨rfl, rfl⟩
    go_wp2
    go_ret2
    exact ⟨none, 0, rfl, OI.none_ _ _, Below.refl _ _⟩
  · rw [codeN_yes hq]
    have HW := Lib.hid hq
    have h8 : n ≤ 8 := by have := (ord_iff.1 hq).2.1; omega
    have h1n : 1 ≤ n := by have := (ord_iff.1 hq).1; omega

    clear hq
    go_enter Try.func7, Try.ntmps7
    go_wp2_with fail
    refine (laOrder_any A0 n c0 zs _ h hn hnc).mono ?_
    rw [HW.out]
    rintro e w1 ⟨rfl, rfl⟩
    have HA := Lib.hid h
    clear h
    go_wp2
    go_loopw [4, 5, 6, 7, 9, 15] (fun s4 _ _ _ _ i wr => ∃ (k : Nat) (A : Option Addr) (c : Nat), k ≤ n ∧ i = .int .i64 k ∧ s4 = .slice A k c ∧ OI wr w.heap.size A k c (codeK zs k) ∧ Below w.heap.size w wr) (fun _ _ _ _ _ i _ => n - (intOf i).toNat)
    case atStart => exact ⟨0, none, 0, Nat.zero_le _, rfl, rfl, OI.none_ _ _, Below.refl _ _⟩
    case round =>
      obtain ⟨k, A1, c1, hk, rfl, rfl, ho, hb⟩ := hrel
      have HO := Lib.hid ho
      have HB := Lib.hid hb
      clear ho hb
      by_cases hlt : k < n
      · obtain ⟨b, off, rfl, hbw, hc⟩ := HA.out.cell hlt
        have hcc : ∀ j, j < n → wr.cell? ⟨b, off + j, none⟩ = some (.int .i64 (gi zs j)) := fun j hj => (HB.out.cell (p := ⟨b, off + j, none⟩) hbw).trans (hc j hj)
        have HCC := Lib.hid hcc
        have hck := hcc k hlt
        have hkn : k + 1 ≤ n := hlt
        clear hc hcc
        go_wp2_with fail
        case inl h =>
          go_loop [7, 9, 25] (fun s7 _ i => ∃ m : Nat, m ≤ n - (k + 1) ∧ i = .int .i64 m ∧ s7 = .int .i64 (cntB zs k m : Nat)) (fun _ _ i => n - (intOf i).toNat)
          case atStart => exact ⟨0, Nat.zero_le _, rfl, rfl⟩
          case round =>
            obtain ⟨m, hm, rfl, rfl⟩ := hrel
            have hcm := cntB_le zs k m
            by_cases hlm : m < n - (k + 1)
            · exfalso; omega
            · obtain rfl : m = n - (k + 1) := by omega
              go_wp2_with (at_builtin; refine wpList_append_int _ rfl _ _ rfl w.heap.size A1 k c1 _ (cntB zs k (n - (k + 1)) : Nat) _ rfl rfl (HO.out.alloc _) (cellNewAt _ _ _ rfl) (by omega) (by have := HB.out.size; simp at this ⊢; omega) ?_; intro A2 c2 w2 ho2 hg2; have HO2 := Lib.hid ho2; have HB2 := belGrown (belAlloc HB _) (HO.out.alloc _) hg2 (Nat.le_refl _); clear ho2 hg2)
              go_roundw
              case rel =>
                have e : codeK zs (k + 1) = codeK zs k ++ [(cntB zs k (n - (k + 1)) : Int)] := by simp only [codeK]; rw [hl]
                first
                  | exact ⟨k + 1, A2, c2, hlt, by go_num, rfl, by rw [e]; exact HO2.out, HB2.out⟩
                  | exact ⟨.slice A2 (k + 1) c2, _, _, _, _, .int .i64 ((k : Int) + 1), ⟨k + 1, hlt, by go_num, A2, c2, rfl, by rw [e]; exact HO2.out, HB2.out⟩, rfl, rfl, rfl, rfl, rfl, rfl⟩
              case measure => simp [intOf]; omega
        case inr h =>
          go_loop [7, 9, 25] (fun s7 _ i => ∃ m : Nat, m ≤ n - (k + 1) ∧ i = .int .i64 m ∧ s7 = .int .i64 (cntB zs k m : Nat)) (fun _ _ i => n - (intOf i).toNat)
          case atStart => exact ⟨0, Nat.zero_le _, rfl, rfl⟩
          case round =>
            obtain ⟨m, hm, rfl, rfl⟩ := hrel
            have hcm := cntB_le zs k m
            by_cases hlm : m < n - (k + 1)
            · have hcp := HCC.out (k + 1 + m) (by omega)
              rw [← Nat.add_assoc] at hcp
              by_cases hq : gi zs (k + 1 + m) < gi zs k
              · have HQ := Lib.hid hq
                go_wp2
                go_round
                case rel => exact ⟨m + 1, by omega, by go_num, by rw [cntB_yes HQ.out]; go_num⟩
                case measure => simp [intOf]; omega
              · have HQ := Lib.hid hq
                have hq1 : gi zs k ≤ gi zs (k + 1 + m) := by omega
                go_wp2
                go_round
                case rel => exact ⟨m + 1, by omega, by go_num, by rw [cntB_no (by have := HQ.out; omega)]⟩
                case measure => simp [intOf]; omega
            · obtain rfl : m = n - (k + 1) := by omega
              go_wp2_with (at_builtin; refine wpList_append_int _ rfl _ _ rfl w.heap.size A1 k c1 _ (cntB zs k (n - (k + 1)) : Nat) _ rfl rfl (HO.out.alloc _) (cellNewAt _ _ _ rfl) (by omega) (by have := HB.out.size; simp at this ⊢; omega) ?_; intro A2 c2 w2 ho2 hg2; have HO2 := Lib.hid ho2; have HB2 := belGrown (belAlloc HB _) (HO.out.alloc _) hg2 (Nat.le_refl _); clear ho2 hg2)
              go_roundw
              case rel =>
                have e : codeK zs (k + 1) = codeK zs k ++ [(cntB zs k (n - (k + 1)) : Int)] := by simp only [codeK]; rw [hl]
                first
                  | exact ⟨k + 1, A2, c2, hlt, by go_num, rfl, by rw [e]; exact HO2.out, HB2.out⟩
                  | exact ⟨.slice A2 (k + 1) c2, _, _, _, _, .int .i64 ((k : Int) + 1), ⟨k + 1, hlt, by go_num, A2, c2, rfl, by rw [e]; exact HO2.out, HB2.out⟩, rfl, rfl, rfl, rfl, rfl, rfl⟩
              case measure => simp [intOf]; omega
      · obtain rfl : k = n := by omega
        have e : codeK zs k = codeL zs := by unfold codeL; rw [hl]
        have el : k = (codeL zs).length := by rw [← e, codeK_len]
        go_wp2
        go_ret2
        exact ⟨A1, c1, by rw [← el]; rfl, by rw [← el]; exact e ▸ HO.out, HB.out⟩

set_option maxRecDepth 100000 in
set_option maxHeartbeats 4000000 in
theorem iCodeOf_any (A0 : Option Addr) (n c0 : Nat) (zs : List Int) (w : World) (h : RI w A0 n zs) (hn : n ≤ 1048576) (hnc : n ≤ c0) :
    Calls Try.prog 6 #[.slice A0 n c0] w (FreshIB w (codeN zs).length (codeN zs) (ord zs)) := by
  have hl := h.1
  have HC := Lib.hid (iInvertedPairs_any A0 n c0 zs w h hn hnc)
  rcases hq : ord zs with _ | _
  · rw [codeN_no hq]
    rw [hq, pairsN_no hq] at HC
    clear hq h
    go_enter Try.func6, Try.ntmps6
    go_wp2_with fail
    refine HC.out.mono ?_
    rintro e w2 ⟨A2, c2, M2, S2, rfl, o2, hb⟩
    have HB := Lib.hid hb
    clear o2 hb
    go_wp2
    go_ret2
    exact ⟨none, 0, rfl, OI.none_ _ _, HB.out⟩
  · rw [codeN_yes hq]
    rw [hq, pairsN_yes hq] at HC
    have h8 : n ≤ 8 := by have := (ord_iff.1 hq).2.1; omega
    have hil := invs_len zs
    have hil2 : zs.length * zs.length ≤ 8 * 8 := Nat.mul_le_mul (by omega) (by omega)
    have HF : Hid (∀ m, m < (invs zs).length → ∃ i : Nat, gi (gz (invs zs) m) 0 = (i : Int) ∧ i < n ∧ (gz (invs zs) m).length = 2) := fun m hm => by
      have := invs_first hm
      rwa [hl] at this
    have HE : Hid (∀ j, j < n → (cF (invs zs) (invs zs).length j : Int) = gi (codeL zs) j) := fun j hj => by
      unfold codeL
      rw [gi_codeK (by omega), cF_all (by omega)]
    have HEL : Hid ((codeL zs).length = n) := by show (codeL zs).length = n; unfold codeL; rw [codeK_len, hl]
    obtain ⟨L, hL⟩ : ∃ L, L = invs zs := ⟨_, rfl⟩
    rw [← hL] at HC HF HE hil
    have hL64 : L.length ≤ 64 := by omega
    have hmk := run_make_row' (P := Try.prog) 24 3 (.int .i64 0) 8 Try.underlying24 infoInt rfl .i64 .i64 n (by omega) (by omega)
    clear hq h hil hil2 hL
    go_enter Try.func6, Try.ntmps6
    go_wp2_with fail
    refine HC.out.mono ?_
    rintro e w1 ⟨A2, c2, M2, S2, rfl, o2, hb⟩
    have HR := Lib.hid o2.rb
    have HB0 := Lib.hid hb
    have HZ := Lib.hid hb.size
    clear o2 hb
    go_wp2
    go_loopw [8, 21] (fun _ i wr => ∃ m : Nat, m ≤ L.length ∧ i = .int .i64 m ∧ wr.rowIs w1.heap.size 3 n (fun j => .int .i64 (cF L m j : Nat)) ∧ Below w1.heap.size w1 wr) (fun _ i _ => L.length - (intOf i).toNat)
    case atStart =>
      refine ⟨0, Nat.zero_le _, rfl, (World.rowIs_made w1 (.int .i64 0) n 3).congr (fun j _ => by simp [cF_zero]), (Below.refl _ _).alloc (Nat.le_refl _) _⟩
    case round =>
      obtain ⟨m, hm, rfl, hrow, hb⟩ := hrel
      have H1 := Lib.hid hrow
      have H2 := Lib.hid hb
      by_cases hlt : m < L.length
      · obtain ⟨b, off, rfl, hbw, hc⟩ := (HR.out.step hb).2.2 (by omega)
        obtain ⟨a, q, d, hck, hra⟩ := hc m hlt
        obtain ⟨i, hi, hin, h2⟩ := HF.out m hlt
        obtain rfl : q = 2 := by rw [← hra.1, h2]
        obtain ⟨b2, off2, rfl, hbw2, hc2⟩ := hra.2.2 (by omega)
        have hc0 := hc2 0 (by omega)
        rw [hi, Nat.add_zero] at hc0
        have HI := Lib.hid hi
        have hd := hrow.cell hin
        have hf := hrow.frozen i
        have hcl := cF_le L m i
        clear hc hc2 hra hrow hb hmk h2 hi
        go_wp2
        go_roundw
        case rel =>
          refine ⟨m + 1, by omega, by go_num, (H1.out.set i _).congr (fun j hj => ?_), H2.out.setCell (by simp) _⟩
          rw [cF_succ hlt, HI.out]
          by_cases e : j = i
          · subst e; simp
          · rw [if_neg e, if_neg (by omega)]; simp
        case measure => simp [intOf]; omega
      · obtain rfl : m = L.length := by omega
        clear hmk hrow hb
        go_wp2
        go_ret2
        refine ⟨_, _, by rw [HEL.out]; rfl, by rw [HEL.out]; exact OI.of_rowIs HZ.out H1.out (by simp only [maxLen]; omega) HEL.out (fun j hj => by rw [HE.out j hj]), HB0.out.trans (H2.out.mono HZ.out)⟩
end Go.Proofs.Ytcjdojnninkgbaa
