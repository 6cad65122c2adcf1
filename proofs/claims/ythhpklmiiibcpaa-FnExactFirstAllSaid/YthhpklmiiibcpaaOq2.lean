/- The program counts the results of all ladders; CountForOrder and CountOrdersMade. -/
import Derived.Test.YthhpklmiiibcpaaOq1
import Derived.Test.YthhpklmiiibcpaaCe9
import Derived.Test.YthhpklmiiibcpaaMgG
namespace Go.Proofs.Ythhpklmiiibcpaa
open Go Go.RowKit Go.Maps

/-- rungs can fall, and results are told by orders -/
def toldB (n k : Int) : Bool := fallB n k && decide (n ≤ 5)
theorem toldB_iff {n k : Int} : toldB n k = true ↔ (2 ≤ n ∧ n ≤ 5) ∧ (0 ≤ k ∧ k ≤ 20) := by
  unfold toldB; rw [Bool.and_eq_true, fallB_iff, decide_eq_true_iff]; omega
theorem toldB_1 {n k : Int} (h : fallB n k = false) : toldB n k = false := by unfold toldB; rw [h]; rfl
theorem toldB_2 {n k : Int} (h : ¬ n ≤ 5) : toldB n k = false := by unfold toldB; rw [decide_eq_false h, Bool.and_false]
theorem toldB_3 {n k : Int} (h : fallB n k = true) (h2 : n ≤ 5) : toldB n k = true := by unfold toldB; rw [h, decide_eq_true h2]; rfl
theorem toldB_fall {n k : Int} (h : toldB n k = true) : fallB n k = true := by unfold toldB at h; rw [Bool.and_eq_true] at h; exact h.1

set_option maxHeartbeats 400000 in
theorem chResults_any (n k : Int) (w : World) : Calls Try.prog 26 #[.int .i64 n, .int .i64 k] w (SameB (toldB n k) w) := by
  rcases h1 : fallB n k with _ | _
  · have H1 := Lib.hid h1
    clear h1
    go_enter Try.func26, Try.ntmps26
    go_wp2_with (go_at_call 44; refine (chGood_any _ _ _).mono ?_; rw [H1.out]; rintro e w' ⟨rfl, rfl⟩)
    go_ret
    exact ⟨ret_b (toldB_1 H1.out).symm, rfl⟩
  · by_cases h2 : n ≤ 5
    · have H1 := Lib.hid h1
      have H2 := Lib.hid (toldB_3 h1 h2)
      clear h1
      go_enter Try.func26, Try.ntmps26
      go_wp2_with (go_at_call 44; refine (chGood_any _ _ _).mono ?_; rw [H1.out]; rintro e w' ⟨rfl, rfl⟩)
      go_ret
      exact ⟨ret_b H2.out.symm, rfl⟩
    · have H1 := Lib.hid h1
      have H2 := Lib.hid (toldB_2 (k := k) h2)
      have h5 : 5 < n := by omega
      clear h1 h2
      go_enter Try.func26, Try.ntmps26
      go_wp2_with (go_at_call 44; refine (chGood_any _ _ _).mono ?_; rw [H1.out]; rintro e w' ⟨rfl, rfl⟩)
      go_ret
      exact ⟨ret_b (by rw [H2.out]; exact decide_eq_false (by omega)), rfl⟩
set_option maxHeartbeats 400000 in
theorem isToldFall_any (n k : Int) (w : World) : Calls Try.prog 30 #[.int .i64 n, .int .i64 k] w (SameB (toldB n k) w) := by
  rcases h1 : fallB n k with _ | _
  · have H1 := Lib.hid h1
    clear h1
    go_enter Try.func30, Try.ntmps30
    go_wp2_with (go_at_call 40; refine (isFall_any _ _ _).mono ?_; rw [H1.out]; rintro e w' ⟨rfl, rfl⟩)
    go_ret
    exact ⟨ret_b (toldB_1 H1.out).symm, rfl⟩
  · by_cases h2 : n ≤ 5
    · have H1 := Lib.hid h1
      have H2 := Lib.hid (toldB_3 h1 h2)
      clear h1
      go_enter Try.func30, Try.ntmps30
      go_wp2_with (go_at_call 40; refine (isFall_any _ _ _).mono ?_; rw [H1.out]; rintro e w' ⟨rfl, rfl⟩)
      go_ret
      exact ⟨ret_b H2.out.symm, rfl⟩
    · have H1 := Lib.hid h1
      have H2 := Lib.hid (toldB_2 (k := k) h2)
      have h5 : 5 < n := by omega
      clear h1 h2
      go_enter Try.func30, Try.ntmps30
      go_wp2_with (go_at_call 40; refine (isFall_any _ _ _).mono ?_; rw [H1.out]; rintro e w' ⟨rfl, rfl⟩)
      go_ret
      exact ⟨ret_b (by rw [H2.out]; exact decide_eq_false (by omega)), rfl⟩

theorem home_take {n : Nat} (hn : n ≤ 8) : (seats []).take n = upto n := by
  rw [seats_nil]
  match n, hn with
  | 0, _ => rfl
  | 1, _ => rfl
  | 2, _ => rfl
  | 3, _ => rfl
  | 4, _ => rfl
  | 5, _ => rfl
  | 6, _ => rfl
  | 7, _ => rfl
  | 8, _ => rfl
theorem RI.of_arr {w : World} {b n : Nat} {zs : List Int} {t : TypeId} {fr : Nat × Nat} (h : w.heap[b]? = some (.cells (I zs).toArray t fr)) (hn : n ≤ zs.length) : RI w (some ⟨b, 0, none⟩) n (zs.take n) := by
  refine ⟨by simp; omega, fun _ => ⟨b, 0, rfl, (Array.getElem?_eq_some_iff.1 h).1, fun j hj => ?_⟩⟩
  rw [Nat.zero_add]
  have h1 : w.cell? ⟨b, j, none⟩ = some (.int .i64 (gi zs j)) := by
    simp only [World.cell?, h]
    simpa using I_at (zs := zs) (j := j) (by omega)
  rw [h1, gi_lt (by omega), gi_lt (by simp; omega)]
  simp

set_option maxRecDepth 100000 in
set_option maxHeartbeats 2000000 in
theorem fallOfAll_any (n K : Nat) (w : World) (hn2 : 2 ≤ n) (hn : n ≤ 6) (hK : K ≤ 20) :
    Calls Try.prog 32 #[.int .i64 (n : Int), .int .i64 (K : Int)] w (FallPost n (upto n) K w) := by
  have hni : (n : Int) ≤ 8 := by omega
  have hn0 : (0 : Int) ≤ (n : Int) := by omega
  have HSE := Lib.hid (seatsOf_any none 0 0 [] w ⟨rfl, fun h => absurd h (by omega)⟩ (by omega))
  go_enter Try.func32, Try.ntmps32
  go_wp2_with fail
  refine HSE.out.mono ?_
  rintro e w1 ⟨rfl, hb1⟩
  have hst := storeNew8 w1 65 (.int .i64 0) (seats []) (seats_length [])
  have hI : (I (seats [])).length = 8 := by rw [I_length, seats_length]
  have HB1 := Lib.hid hb1
  have hri : RI (w1.alloc (.cells (I (seats [])).toArray 65)) (some ⟨w1.heap.size, 0, none⟩) n (upto n) := by
    rw [← home_take (n := n) (by omega)]
    exact RI.of_arr (heap_alloc_new w1 _) (by rw [seats_length]; omega)
  have HFF := Lib.hid (fun c => fallFrom_any n K (some ⟨w1.heap.size, 0, none⟩) n c (upto n) _ hn2 hn hK hri (by omega) (fun x hx => by
    obtain ⟨j, hj, rfl⟩ := List.mem_map.1 hx
    have := List.mem_range.1 hj
    omega))
  clear hb1 HSE hri
  go_wp2_with fail
  refine (HFF.out _).mono ?_
  rintro e w2 ⟨b, D, rfl, hb, ho, hg, hw, hb2⟩
  have HB2 : Hid (Below w.heap.size w w2) := Lib.hid ((HB1.out.alloc HB1.out.size _).trans (hb2.mono (by simp; have := HB1.out.size; omega)))
  have hz1 : w.heap.size ≤ b := by have := HB1.out.size; simp at hb; omega
  clear hst
  go_wp2
  go_ret
  exact ⟨b, D, rfl, hz1, ho, hg, hw, HB2.out⟩

/-- the counts of all results -/
structure AllC (n K : Nat) (D : DataW Unit) : Prop where
  good : Gm n D
  wgt : ∀ f, W f D = ups ovE (n - 1) K f (endsL (upto n))
theorem OKp.oke {n : Nat} {p : List Int} (h : OKp n p) : OKE n (endsL p) := by
  obtain ⟨h1, h2, h3, h4⟩ := ord_iff.1 h.1
  exact OKE.ends (fun x hx => by have := h3 x hx; rw [h.2] at this; exact this) (by have := h.2; omega)
theorem AllC.at {n K : Nat} {D : DataW Unit} (h : AllC n K D) (h1 : 1 ≤ n) (hn : n ≤ 6) {p : List Int} (hp : OKp n p) : at0 D (eL (endsL p)) = resN n K p := by
  rw [← W_single h.good hn hp.oke, h.wgt, ends_orders h1 hn]
  unfold resN
  refine ups_on (S := OKp n) (fun b r hb hr => hb.ex (by omega)) (fun q hq => ?_) K (upto n) (upto_ok h1 (by omega))
  unfold single single1
  by_cases e : q = p
  · rw [if_pos (by rw [e]), if_pos e]
  · rw [if_neg (fun h2 => e (endsL_inj hq.2 hp.2 hn h2)), if_neg e]
/-- all keys are the ends of orders -/
theorem AllC.key {n K : Nat} {D : DataW Unit} (h : AllC n K D) (h1 : 1 ≤ n) (hn : n ≤ 6) {e : List Int} (he : OKE n e) (hat : 0 < at0 D (eL e)) : ∃ p, OKp n p ∧ e = endsL p := by
  apply Classical.byContradiction
  intro hno
  have hz : W (single e) D = 0 := by
    rw [h.wgt, ends_orders h1 hn]
    have h2 : ups exI (n - 1) K (fun p => single e (endsL p)) (upto n) = ups exI (n - 1) K (fun _ => 0) (upto n) :=
      ups_on (S := OKp n) (fun b r hb hr => hb.ex (by omega)) (fun q hq => by
        unfold single
        rw [if_neg]
        rintro rfl
        exact hno ⟨q, hq, rfl⟩) K _ (upto_ok h1 (by omega))
    rw [h2, ups_const]
    simp
  rw [W_single h.good hn he] at hz
  omega

/-- CountForOrder -/
def cfoQ (n k : Int) (p : List Int) : Bool := toldB n k && (ord p && decide ((p.length : Int) = n))
def cfoN (n k : Int) (p : List Int) : Int := if cfoQ n k p = true then ((resN n.toNat k.toNat p : Nat) : Int) else 0
theorem cfoQ_1 {n k : Int} {p : List Int} (h : toldB n k = false) : cfoQ n k p = false := by unfold cfoQ; rw [h]; rfl
theorem cfoQ_2 {n k : Int} {p : List Int} (h : ord p = false) : cfoQ n k p = false := by unfold cfoQ; rw [h]; simp
theorem cfoQ_3 {n k : Int} {p : List Int} (h : ¬ (p.length : Int) = n) : cfoQ n k p = false := by unfold cfoQ; rw [decide_eq_false h]; simp
theorem cfoQ_4 {n k : Int} {p : List Int} (h : toldB n k = true) (h2 : ord p = true) (h3 : (p.length : Int) = n) : cfoQ n k p = true := by unfold cfoQ; rw [h, h2, decide_eq_true h3]; rfl
theorem cfoN_no {n k : Int} {p : List Int} (h : cfoQ n k p = false) : cfoN n k p = 0 := by unfold cfoN; rw [h]; rfl
theorem cfoN_yes {n k : Int} {p : List Int} (h : cfoQ n k p = true) : cfoN n k p = ((resN n.toNat k.toNat p : Nat) : Int) := by unfold cfoN; rw [if_pos h]
theorem cfoN_in (n k : Int) (p : List Int) : 0 ≤ cfoN n k p ∧ cfoN n k p ≤ 95367431640625 := by
  rcases h : cfoQ n k p with _ | _
  · rw [cfoN_no h]; omega
  · rw [cfoN_yes h]
    unfold cfoQ at h
    rw [Bool.and_eq_true] at h
    have h1 := toldB_iff.1 h.1
    have h2 := resN_le (n := n.toNat) (k := k.toNat) p
    have h3 := pow5 (m := n.toNat - 1) (j := k.toNat) (by omega) (by omega)
    omega

set_option maxRecDepth 100000 in
set_option maxHeartbeats 2000000 in
theorem sCountForOrder_any (A : Option Addr) (m c : Nat) (p : List Int) (n k : Int) (w : World) (h : RI w A m p) (hm : m ≤ 1048576) (hmc : m ≤ c) :
    Calls Try.prog 9 #[.int .i64 n, .int .i64 k, .slice A m c] w (RetIB (cfoN n k p) (cfoQ n k p) w) := by
  have hl := h.1
  rcases h1 : toldB n k with _ | _
  · have E1 := Lib.hid h1
    rw [cfoN_no (cfoQ_1 h1), cfoQ_1 h1]
    clear h1
    go_enter Try.func9, Try.ntmps9
    go_wp2_with (go_at_call 26; refine (chResults_any _ _ _).mono ?_; rw [E1.out]; rintro e w' ⟨rfl, rfl⟩)
    go_ret2
    exact ⟨rfl, Below.refl _ _⟩
  rcases h2 : ord p with _ | _
  · have E1 := Lib.hid h1
    have E2 := Lib.hid h2
    have HR := Lib.hid h
    rw [cfoN_no (cfoQ_2 h2), cfoQ_2 h2]
    clear h1 h2 h
    go_enter Try.func9, Try.ntmps9
    go_wp2_with (first | (go_at_call 26; refine (chResults_any _ _ _).mono ?_; rw [E1.out]; rintro e w' ⟨rfl, rfl⟩) | (go_at_call 27; refine (laOrder_any _ _ _ _ _ HR.out hm hmc).mono ?_; rw [E2.out]; rintro e w' ⟨rfl, rfl⟩))
    go_ret2
    exact ⟨rfl, Below.refl _ _⟩
  by_cases h3 : (p.length : Int) = n
  · have hq := cfoQ_4 h1 h2 h3
    rw [cfoN_yes hq, hq]
    have E1 := Lib.hid h1
    have E2 := Lib.hid h2
    have HR := Lib.hid h
    have ht := toldB_iff.1 h1
    have hmn : n = (m : Int) := by rw [← h3, hl]
    subst hmn
    obtain ⟨K, rfl⟩ : ∃ K : Nat, k = (K : Int) := ⟨k.toNat, by omega⟩
    rw [Int.toNat_natCast, Int.toNat_natCast]
    have hok : OKp m p := ⟨h2, hl⟩
    have hrk := gz_rk (n := m) (by omega) (by omega) hok
    have hgi := gi_chO (k := K) hrk.1
    rw [hrk.2] at hgi
    have HCO := Lib.hid (fun w => chOrders_any m K w (by omega) (by omega) (by omega))
    have HRA := Lib.hid (fun w' (h : RI w' A m p) => alRank_any A m c p w' h (by omega) hmc)
    have hne : ((m : Int) != (m : Int)) = false := by simp
    obtain ⟨r, hr⟩ : ∃ r, r = rk p := ⟨_, rfl⟩
    obtain ⟨v, hv⟩ : ∃ v, v = resN m K p := ⟨_, rfl⟩
    rw [← hr] at hrk hgi HRA
    rw [← hv] at hgi ⊢
    obtain ⟨N, hN⟩ : ∃ N, N = (ordsK m m).length := ⟨_, rfl⟩
    rw [← hN] at hrk HCO
    have HGI := Lib.hid hgi
    have hrN := hrk.1
    have hr0 : (0 : Int) ≤ (r : Int) := by omega
    have hri : (r : Int) < (N : Int) := by omega
    clear h1 h2 h h3 hq hok hgi hr hv hN hrk
    go_enter Try.func9, Try.ntmps9
    go_wp2_with (first | (go_at_call 26; refine (chResults_any _ _ _).mono ?_; rw [E1.out]; rintro e w' ⟨rfl, rfl⟩) | (go_at_call 27; refine (laOrder_any _ _ _ _ _ HR.out hm hmc).mono ?_; rw [E2.out]; rintro e w' ⟨rfl, rfl⟩))
    refine (HCO.out _).mono ?_
    rintro e w1 ⟨g, rfl, ho, hb⟩
    have HO := Lib.hid ho
    have HB := Lib.hid hb
    have HR1 : Hid (RI w1 A m p) := Lib.hid (HR.out.below hb (Nat.le_refl _))
    clear ho hb HCO
    go_wp2_with fail
    refine (HRA.out _ HR1.out).mono ?_
    rintro e w2 ⟨rfl, rfl⟩
    have ck := HO.out.cells r hrN
    rw [HGI.out] at ck
    clear HRA
    go_wp2
    go_ret2
    exact ⟨rfl, HB.out⟩
  · have E1 := Lib.hid h1
    have E2 := Lib.hid h2
    have HR := Lib.hid h
    have hne : ((m : Int) != n) = true := by rw [bne_iff_ne]; intro e; exact h3 (by rw [hl]; exact e)
    rw [cfoN_no (cfoQ_3 h3), cfoQ_3 h3]
    clear h1 h2 h h3
    go_enter Try.func9, Try.ntmps9
    go_wp2_with (first | (go_at_call 26; refine (chResults_any _ _ _).mono ?_; rw [E1.out]; rintro e w' ⟨rfl, rfl⟩) | (go_at_call 27; refine (laOrder_any _ _ _ _ _ HR.out hm hmc).mono ?_; rw [E2.out]; rintro e w' ⟨rfl, rfl⟩))
    go_ret2
    exact ⟨rfl, Below.refl _ _⟩

set_option maxRecDepth 100000 in
set_option maxHeartbeats 2000000 in
theorem iCountForOrder_any (A : Option Addr) (m c : Nat) (p : List Int) (n k : Int) (w : World) (h : RI w A m p) (hm : m ≤ 1048576) :
    Calls Try.prog 11 #[.int .i64 n, .int .i64 k, .slice A m c] w (RetIB (cfoN n k p) (cfoQ n k p) w) := by
  have hl := h.1
  rcases h1 : toldB n k with _ | _
  · have E1 := Lib.hid h1
    rw [cfoN_no (cfoQ_1 h1), cfoQ_1 h1]
    clear h1
    go_enter Try.func11, Try.ntmps11
    go_wp2_with (go_at_call 30; refine (isToldFall_any _ _ _).mono ?_; rw [E1.out]; rintro e w' ⟨rfl, rfl⟩)
    go_ret2
    exact ⟨rfl, Below.refl _ _⟩
  have HIO := Lib.hid (fun (w : World) (h : RI w A m p) => iIsOrder_any A m c p w h (by omega))
  rcases h2 : ord p with _ | _
  · have E1 := Lib.hid h1
    have HR := Lib.hid h
    rw [h2] at HIO
    rw [cfoN_no (cfoQ_2 h2), cfoQ_2 h2]
    clear h1 h2 h
    go_enter Try.func11, Try.ntmps11
    go_wp2_with (go_at_call 30; refine (isToldFall_any _ _ _).mono ?_; rw [E1.out]; rintro e w' ⟨rfl, rfl⟩)
    refine (HIO.out _ HR.out).mono ?_
    rintro e w1 ⟨rfl, hb⟩
    have HB := Lib.hid hb
    clear hb HIO
    go_wp2
    go_ret2
    exact ⟨rfl, HB.out⟩
  rw [h2] at HIO
  by_cases h3 : (p.length : Int) = n
  · have hq := cfoQ_4 h1 h2 h3
    rw [cfoN_yes hq, hq]
    have E1 := Lib.hid h1
    have HR := Lib.hid h
    have ht := toldB_iff.1 h1
    have hmn : n = (m : Int) := by rw [← h3, hl]
    subst hmn
    obtain ⟨K, rfl⟩ : ∃ K : Nat, k = (K : Int) := ⟨k.toNat, by omega⟩
    rw [Int.toNat_natCast, Int.toNat_natCast]
    have hok : OKp m p := ⟨h2, hl⟩
    have HOK := Lib.hid hok.oke
    have HAT : Hid (∀ D, AllC m K D → at0 D (eL (endsL p)) = resN m K p) := Lib.hid fun D hD => hD.at (by omega) (by omega) hok
    have HFO := Lib.hid (fun w => fallOfAll_any m K w (by omega) (by omega) (by omega))
    have HEN := Lib.hid (fun w' (h : RI w' A m p) => endsOf_any A m c p w' h (by omega))
    have hne : ((m : Int) != (m : Int)) = false := by simp
    obtain ⟨E, hE⟩ : ∃ E, E = endsL p := ⟨_, rfl⟩
    obtain ⟨v, hv⟩ : ∃ v, v = resN m K p := ⟨_, rfl⟩
    rw [← hE] at HOK HAT HEN
    rw [← hv] at HAT ⊢
    have hm6 : m ≤ 6 := by omega
    clear h1 h2 h h3 hq hok hE hv
    go_enter Try.func11, Try.ntmps11
    go_wp2_with (go_at_call 30; refine (isToldFall_any _ _ _).mono ?_; rw [E1.out]; rintro e w' ⟨rfl, rfl⟩)
    refine (HIO.out _ HR.out).mono ?_
    rintro e w1 ⟨rfl, hb⟩
    have HB := Lib.hid hb
    have HR1 : Hid (RI w1 A m p) := Lib.hid (HR.out.below hb (Nat.le_refl _))
    clear hb HIO
    go_wp2_with fail
    refine (HFO.out _).mono ?_
    rintro e w2 ⟨b, D, rfl, hb, ho, hg, hw, hbl⟩
    have HAC : Hid (at0 D (eL E) = v) := Lib.hid (HAT.out D ⟨hg, hw⟩)
    have HG := Lib.hid hg
    have HO := Lib.hid ho
    have HR2 : Hid (RI w2 A m p) := Lib.hid (HR1.out.below hbl (Nat.le_refl _))
    have HB2 : Hid (Below w.heap.size w w2) := Lib.hid (HB.out.trans (hbl.mono HB.out.size))
    clear hb ho hg hw hbl HFO
    go_wp2_with fail
    refine (HEN.out _ HR2.out).mono ?_
    rintro e w3 ⟨rfl, hb3⟩
    have HB3 : Hid (Below w.heap.size w w3) := Lib.hid (HB2.out.trans (hb3.mono HB2.out.size))
    have HO3 : Hid (OE w3 b (Maps.size D) D) := Lib.hid (HO.out.kept (grown_of_below hb3 none) (by simp))
    clear hb3 HEN
    go_wp2_with (first
      | (at_lookup; refine wpList_lookup_own_int _ rfl _ _ 45 rfl 48 3 .i64 keyE Try.underlying45 Try.underlying3 (zeroEl _) b _ _ rfl HO3.out _ _ rfl (key_of HOK.out hm6) ?_; intro c0 hat hwc; obtain rfl : c0 = (v : Int) := (at0_of HG.out hat).trans (by rw [HAC.out]); clear hat hwc))
    go_wp2
    go_ret2
    exact ⟨rfl, HB3.out⟩
  · have E1 := Lib.hid h1
    have HR := Lib.hid h
    have hne : ((m : Int) != n) = true := by rw [bne_iff_ne]; intro e; exact h3 (by rw [hl]; exact e)
    rw [cfoN_no (cfoQ_3 h3), cfoQ_3 h3]
    clear h1 h2 h h3
    go_enter Try.func11, Try.ntmps11
    go_wp2_with (go_at_call 30; refine (isToldFall_any _ _ _).mono ?_; rw [E1.out]; rintro e w' ⟨rfl, rfl⟩)
    refine (HIO.out _ HR.out).mono ?_
    rintro e w1 ⟨rfl, hb⟩
    have HB := Lib.hid hb
    clear hb HIO
    go_wp2
    go_ret2
    exact ⟨rfl, HB.out⟩
end Go.Proofs.Ythhpklmiiibcpaa
