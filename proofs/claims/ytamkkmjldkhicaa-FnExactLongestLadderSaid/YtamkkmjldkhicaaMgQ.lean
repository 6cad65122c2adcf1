/- The first one of all lists that slides make of a list, taken by the least that can come to the top; the first two who meet twice: mathematics. The model's rungs of the first least ladder. The contracts of LeastLadder's and LongestLadder's models. The first least ladder of a list has as many rungs as the list has inversions: mathematics. -/
import Derived.Test.YtamkkmjldkhicaaMgA
import Derived.Test.YtamkkmjldkhicaaMgJ
import Derived.Test.YtamkkmjldkhicaaMgF
import Derived.Test.YtamkkmjldkhicaaMgE
import Derived.Test.YtamkkmjldkhicaaMgB
import Derived.Test.YtamkkmjldkhicaaMgG
namespace Go.Proofs.Ytamkkmjldkhicaa
open Go Go.RowKit

/-- how far two numbers are apart -/
def far (a b : Int) : Bool := decide (2 ≤ a - b ∨ 2 ≤ b - a)
/-- all of the first m are far from r -/
def freeK (zs : List Int) (r : Int) : Nat → Bool
  | 0 => true
  | m + 1 => freeK zs r m && far (gi zs m) r
theorem freeK_no {zs : List Int} {r : Int} {i : Nat} : ∀ (m : Nat), i < m → far (gi zs i) r = false → freeK zs r m = false
  | 0, h, _ => absurd h (by omega)
  | m + 1, h, e => by
    simp only [freeK]
    by_cases h2 : i = m
    · subst h2; rw [e]; simp
    · rw [freeK_no m (by omega) e]; simp
/-- the least of the first k that can come to the top -/
def bst (zs : List Int) : Nat → Nat
  | 0 => 0
  | k + 1 => if freeK zs (gi zs k) k = true ∧ gi zs k < gi zs (bst zs k) then k else bst zs k
theorem bst_lt (zs : List Int) : ∀ (k : Nat), 0 < k → bst zs k < k
  | 0, h => absurd h (by omega)
  | k + 1, _ => by
    simp only [bst]
    split
    · omega
    · rcases Nat.eq_zero_or_pos k with h | h
      · subst h; simp [bst]
      · have := bst_lt zs k h; omega
theorem bst_one (zs : List Int) : bst zs 1 = 0 := by simp [bst]
def nrmF : Nat → List Int → List Int
  | 0, _ => []
  | f + 1, zs => gi zs (bst zs zs.length) :: nrmF f (zs.eraseIdx (bst zs zs.length))
def nrm (zs : List Int) : List Int := nrmF zs.length zs
theorem nrmF_len : ∀ (f : Nat) (zs : List Int), (nrmF f zs).length = f
  | 0, _ => rfl
  | f + 1, zs => by simp [nrmF, nrmF_len f]
theorem nrm_len (zs : List Int) : (nrm zs).length = zs.length := nrmF_len _ _
/-- what is taken already, and what is left -/
structure NRel (zs out left : List Int) (f : Nat) : Prop where
  eq : out ++ nrmF f left = nrm zs
  len : left.length = f
  cnt : out.length + f = zs.length
  sub : ∀ x ∈ left, x ∈ zs
theorem NRel.start (zs : List Int) : NRel zs [] zs zs.length := ⟨rfl, rfl, by simp, fun _ h => h⟩
theorem NRel.stop {zs out left : List Int} (h : NRel zs out left 0) : out = nrm zs := by
  have := h.eq
  simpa [nrmF] using this
theorem NRel.step {zs out left : List Int} {f : Nat} (h : NRel zs out left (f + 1)) : NRel zs (out ++ [gi left (bst left left.length)]) (left.eraseIdx (bst left left.length)) f := by
  have hb := bst_lt left left.length (by have := h.len; omega)
  refine ⟨?_, by rw [List.length_eraseIdx, if_pos hb]; have := h.len; omega, by have := h.cnt; simp; omega, fun x hx => h.sub x (List.mem_of_mem_eraseIdx hx)⟩
  rw [← h.eq]
  simp [nrmF]

/-- the first b behind a of whom M tells, among m -/
def twB (M : Nat → Nat → Bool) (a : Nat) : Nat → Option (Nat × Nat)
  | 0 => none
  | m + 1 => match twB M a m with
    | some x => some x
    | none => if M a (a + 1 + m) = true then some (a, a + 1 + m) else none
def twA (M : Nat → Nat → Bool) (W : Nat) : Nat → Option (Nat × Nat)
  | 0 => none
  | k + 1 => match twA M W k with
    | some x => some x
    | none => twB M k (W - (k + 1))
theorem twB_no {M : Nat → Nat → Bool} {a m : Nat} (h : twB M a m = none) (hn : M a (a + 1 + m) = false) : twB M a (m + 1) = none := by
  simp [twB, h, hn]
theorem twB_mono {M : Nat → Nat → Bool} {a m : Nat} {x : Nat × Nat} (h : twB M a m = some x) : ∀ (j : Nat), twB M a (m + j) = some x
  | 0 => h
  | j + 1 => by
    have := twB_mono h j
    rw [← Nat.add_assoc]
    simp [twB, this]
theorem twA_mono {M : Nat → Nat → Bool} {W k : Nat} {x : Nat × Nat} (h : twA M W k = some x) : ∀ (j : Nat), twA M W (k + j) = some x
  | 0 => h
  | j + 1 => by
    have := twA_mono h j
    rw [← Nat.add_assoc]
    simp [twA, this]
theorem twA_no {M : Nat → Nat → Bool} {W k : Nat} (h : twA M W k = none) (hn : twB M k (W - (k + 1)) = none) : twA M W (k + 1) = none := by
  simp [twA, h, hn]
theorem tw_found {M : Nat → Nat → Bool} {W k m : Nat} (h : twA M W k = none) (hb : twB M k m = none) (hm : k + 1 + m < W) (hM : M k (k + 1 + m) = true) : twA M W W = some (k, k + 1 + m) := by
  have h1 : twB M k (m + 1) = some (k, k + 1 + m) := by simp [twB, hb, hM]
  have h2 := twB_mono h1 (W - (k + 1) - (m + 1))
  have e : m + 1 + (W - (k + 1) - (m + 1)) = W - (k + 1) := by omega
  rw [e] at h2
  have h3 : twA M W (k + 1) = some (k, k + 1 + m) := by simp [twA, h, h2]
  have h4 := twA_mono h3 (W - (k + 1))
  have e2 : k + 1 + (W - (k + 1)) = W := by omega
  rwa [e2] at h4

/-! what moves make of a list -/
def nigh (a b : Int) : Bool := decide (a - b = 1 ∨ b - a = 1)
def sldOk (zs : List Int) (at_ : Int) : Bool := decide (0 ≤ at_ ∧ at_ + 2 ≤ zs.length) && far (gi zs at_.toNat) (gi zs (at_.toNat + 1))
def flpOk (zs : List Int) (at_ : Int) : Bool := decide (0 ≤ at_ ∧ at_ + 3 ≤ zs.length) && (decide (gi zs at_.toNat = gi zs (at_.toNat + 2)) && nigh (gi zs at_.toNat) (gi zs (at_.toNat + 1)))
def drpOk (zs : List Int) (at_ : Int) : Bool := decide (0 ≤ at_ ∧ at_ + 2 ≤ zs.length) && decide (gi zs at_.toNat = gi zs (at_.toNat + 1))
def sldL (zs : List Int) (k : Nat) : List Int := (zs.set k (gi zs (k + 1))).set (k + 1) (gi zs k)
def flpL (zs : List Int) (k : Nat) : List Int := ((zs.set k (gi zs (k + 1))).set (k + 1) (gi zs k)).set (k + 2) (gi zs (k + 1))
def drpL (zs : List Int) (k : Nat) : List Int := zs.take k ++ zs.drop (k + 2)
theorem take_drop2 {zs : List Int} {k : Nat} (h : k + 2 ≤ zs.length) : zs = zs.take k ++ [gi zs k, gi zs (k + 1)] ++ zs.drop (k + 2) := by
  apply List.ext_getElem?
  intro j
  rcases Nat.lt_or_ge j k with h1 | h1
  · rw [List.append_assoc, List.getElem?_append_left (by simp; omega)]; simp [h1]
  · rcases Nat.lt_or_ge j (k + 2) with h2 | h2
    · rw [List.getElem?_append_left (by simp; omega), List.getElem?_append_right (by simp; omega)]
      have e : min k zs.length = k := by omega
      have : j = k ∨ j = k + 1 := by omega
      rcases this with rfl | rfl
      · simp only [List.length_take, e, Nat.sub_self]; rw [gi_lt (by omega)]; simp
      · simp only [List.length_take, e]; rw [gi_lt (show k + 1 < zs.length by omega)]; simp [show k + 1 - k = 1 by omega]
    · rw [List.getElem?_append_right (by simp; omega)]
      simp only [List.length_append, List.length_take, List.length_cons, List.length_nil, List.getElem?_drop]
      congr 1; omega
theorem sldL_cat {zs : List Int} {k : Nat} (h : k + 2 ≤ zs.length) : sldL zs k = zs.take k ++ [gi zs (k + 1), gi zs k] ++ zs.drop (k + 2) := by
  have hl : (zs.take k).length = k := by simp; omega
  unfold sldL
  conv => lhs; rw [take_drop2 h]
  have g0 : gi (zs.take k ++ [gi zs k, gi zs (k + 1)] ++ zs.drop (k + 2)) k = gi zs k := by rw [← take_drop2 h]
  have g1 : gi (zs.take k ++ [gi zs k, gi zs (k + 1)] ++ zs.drop (k + 2)) (k + 1) = gi zs (k + 1) := by rw [← take_drop2 h]
  rw [g0, g1]
  rw [List.append_assoc, List.set_append_right _ _ (by omega), List.set_append_right _ _ (by omega), hl]
  simp
theorem take_drop3 {zs : List Int} {k : Nat} (h : k + 3 ≤ zs.length) : zs = zs.take k ++ [gi zs k, gi zs (k + 1), gi zs (k + 2)] ++ zs.drop (k + 3) := by
  have h1 := take_drop2 (zs := zs) (k := k) (by omega)
  have h2 : zs.drop (k + 2) = gi zs (k + 2) :: zs.drop (k + 3) := by rw [List.drop_eq_getElem_cons (by omega), gi_lt (by omega)]
  rw [h2] at h1
  simpa using h1
theorem flpL_cat {zs : List Int} {k : Nat} (h : k + 3 ≤ zs.length) : flpL zs k = zs.take k ++ [gi zs (k + 1), gi zs k, gi zs (k + 1)] ++ zs.drop (k + 3) := by
  have hl : (zs.take k).length = k := by simp; omega
  unfold flpL
  conv => lhs; rw [take_drop3 h]
  have g0 : gi (zs.take k ++ [gi zs k, gi zs (k + 1), gi zs (k + 2)] ++ zs.drop (k + 3)) k = gi zs k := by rw [← take_drop3 h]
  have g1 : gi (zs.take k ++ [gi zs k, gi zs (k + 1), gi zs (k + 2)] ++ zs.drop (k + 3)) (k + 1) = gi zs (k + 1) := by rw [← take_drop3 h]
  rw [g0, g1]
  rw [List.append_assoc, List.set_append_right _ _ (by omega), List.set_append_right _ _ (by omega), List.set_append_right _ _ (by omega), hl]
  simp [show k + 1 - k = 1 by omega, show k + 2 - k = 2 by omega]
theorem sldL_len (zs : List Int) (k : Nat) : (sldL zs k).length = zs.length := by simp [sldL]
theorem flpL_len (zs : List Int) (k : Nat) : (flpL zs k).length = zs.length := by simp [flpL]
end Go.Proofs.Ytamkkmjldkhicaa
namespace Go.Proofs.Ytamkkmjldkhicaa
open Go Go.RowKit

def lenOf2 : Value → Nat
  | .slice _ n _ => n
  | _ => 0
set_option maxRecDepth 100000 in
set_option maxHeartbeats 4000000 in
theorem lsFirst_any (A : Option Addr) (n c : Nat) (zs : List Int) (w : World) (h : RI w A n zs) (hI : Inn8 zs) (h1 : 1 ≤ n) :
    Calls Try.prog 64 #[.slice A n c] w (FreshI w (firstL zs).length (firstL zs)) := by
  have hl := h.1
  have h8 : n ≤ 8 := by have := hI.1; omega
  have HI := Lib.hid hI
  go_enter Try.func64, Try.ntmps64
  go_wp2_with fail
  refine (l1Own_any A n c zs _ h (by omega)).mono ?_
  rintro e w1 ⟨P, cp, rfl, hp, hb⟩
  rcases hp.form with ⟨_, _, h0⟩ | ⟨g, _, rfl, hBg, hgw, _, _, _, _, _⟩
  · omega
  have HP := Lib.hid hp
  have HB := Lib.hid hb
  have HZ := Lib.hid hb.size
  clear hp hb h hI
  go_wp2
  go_loopw [3, 4, 5, 6] (fun s3 _ _ _ wr => ∃ (out cur : List Int) (f : Nat) (A3 : Option Addr) (c3 : Nat), s3 = .slice A3 out.length c3 ∧ FRel zs out cur f ∧ OI wr w1.heap.size A3 out.length c3 out ∧ OI wr w.heap.size (some ⟨g, 0, none⟩) n cp cur ∧ Below w.heap.size w wr ∧ w1.heap.size ≤ wr.heap.size) (fun s3 _ _ _ _ => 700 - lenOf2 s3)
  case atStart => exact ⟨[], zs, 600, none, 0, rfl, FRel.start HI.out, OI.none_ _ _, HP.out, HB.out, Nat.le_refl _⟩
  case round =>
    obtain ⟨out, cur, f, A3, c3, rfl, hf, ho, hc, hb, hz⟩ := hrel
    have HF := Lib.hid hf
    have HO := Lib.hid ho
    have HC := Lib.hid hc
    have HW := Lib.hid hb
    have hcl : cur.length = n := by rw [hf.len, hl]
    have hol : out.length ≤ 600 := by have := hf.cnt; omega
    have HCC := Lib.hid hc.cells
    have HFR : Hid (∀ j, wr.frozen? ⟨g, j, none⟩ = false) := hc.2.frozenAt
    clear hf ho hc hb
    go_wp2_with fail
    go_loopw [4, 5] (fun s4 s5 wi => ∃ k m : Nat, wi = wr.drewN m ∧ s5 = .int .i64 (k : Int) ∧ k + 1 ≤ n ∧ s4 = .int .i64 (atV cur k)) (fun _ s5 _ => n - (intOf s5).toNat)
    case atStart => exact ⟨0, 0, rfl, rfl, h1, rfl⟩
    case round =>
      obtain ⟨k, m, rfl, rfl, hk, rfl⟩ := hrel
      rcases hq : fdsc cur k with _ | i
      · have HQ := Lib.hid hq
        rw [atV_none hq]
        clear hq
        by_cases hlt : k + 1 < n
        · have hck := HCC.out k (by omega)
          have hcp := HCC.out (k + 1) hlt
          by_cases hd : gi cur (k + 1) < gi cur k
          · have HD := Lib.hid hd
            go_wp2
            go_quiet (fail)
            clear hd
            go_wp2
            go_roundw
            case rel => exact ⟨k + 1, m + nq, by first | rfl | rw [World.drewN_drewN], by go_num, hlt, by rw [atV_some (fdsc_yes HQ.out HD.out)]⟩
            case measure => simp [intOf]; omega
          · have HD := Lib.hid hd
            have hd1 : gi cur k ≤ gi cur (k + 1) := by omega
            go_wp2
            go_quiet (fail)
            go_wp2
            go_roundw
            case rel => exact ⟨k + 1, m + nq, by first | rfl | rw [World.drewN_drewN], by go_num, hlt, by rw [atV_none (fdsc_no HQ.out (by have := HD.out; omega))]⟩
            case measure => simp [intOf]; omega
        · have e := HF.out.stop (by rw [hcl, show n - 1 = k by omega]; exact HQ.out)
          go_wp2
          go_ret
          exact ⟨A3, c3, by rw [← e]; rfl, by rw [← e]; exact (HO.out.mono HZ.out).drewN m, below_drewN HW.out m⟩
      · have HQ := Lib.hid hq
        obtain ⟨hik, hdi, _⟩ := fdsc_some _ hq
        obtain ⟨f2, hf2, hi1, HN⟩ := HF.out.step (i := i) (by rw [hcl]; exact fdsc_to hq (by omega))
        have HN := Lib.hid HN
        rw [atV_some hq]
        have hi2 : i + 1 < n := by omega
        have ci := HCC.out i (by omega)
        have ci1 := HCC.out (i + 1) hi2
        have fi := HFR.out i
        have fi1 := HFR.out (i + 1)
        have hi0 : (0 : Int) ≤ (i : Int) := by omega
        clear hq hdi hf2
        go_wp2_with (at_builtin; refine wpList_append_int _ rfl _ _ rfl w1.heap.size A3 out.length c3 _ (i : Int) _ rfl rfl ((((HO.out.drewN m).setBelow (by simp; omega) _).setBelow (by simp; omega) _).alloc _) (cellNewAt _ _ _ (by simp)) (by omega) (by simp; omega) ?_; intro A2 c2 w2 ho2 hg2; have HO2 := Lib.hid ho2; have HG2 := Lib.hid hg2; clear ho2 hg2)
        all_goals
          have HC2 := Lib.hid (OI.kept ((((HC.out.drewN m).stored i _).stored (i + 1) _).alloc _) HG2.out (fun b hb e => by
            simp [blk] at hb
            have := (HO.out.blk b e).1
            omega))
          have HW2 := belGrown (belAlloc (Lib.hid (((below_drewN HW.out m).setCell (p := ⟨g, i, none⟩) hBg _).setCell (p := ⟨g, i + 1, none⟩) hBg _)) _) ((((HO.out.drewN m).setBelow (by simp; omega) _).setBelow (by simp; omega) _).alloc _) HG2.out HZ.out
          have hz2 : w1.heap.size ≤ w2.heap.size := by have := HG2.out.size; simp at this; omega
          go_roundw
          case rel => exact ⟨out ++ [(i : Int)], exch cur i, f2, A2, c2, by simp, HN.out, by simpa using HO2.out, HC2.out, HW2.out, hz2⟩
          case measure => simp [lenOf2]; omega
end Go.Proofs.Ytamkkmjldkhicaa
namespace Go.Proofs.Ytamkkmjldkhicaa
open Go Go.RowKit

theorem ord_in8 {zs : List Int} (h : ord zs = true) : Inn8 zs := by
  have h8 := (ord_iff.1 h).2.1
  refine ⟨h8, fun j hj => ?_⟩
  have := (ord_iff.1 h).2.2.1 _ (mem_gi.2 ⟨j, hj, rfl⟩)
  omega
/-- an order of at least two numbers -/
def leastB (zs : List Int) : Bool := ord zs && decide (2 ≤ zs.length)
theorem leastB_no1 {zs : List Int} (h : ord zs = false) : leastB zs = false := by simp [leastB, h]
theorem leastB_no2 {zs : List Int} (h : zs.length < 2) : leastB zs = false := by simp [leastB]; omega
theorem leastB_yes {zs : List Int} (h : ord zs = true) (h2 : 2 ≤ zs.length) : leastB zs = true := by simp [leastB, h, h2]
def leastL (zs : List Int) : List Int := ifL (leastB zs) (firstL zs)
def leastW (zs : List Int) : Int := ifW (leastB zs) zs.length
theorem leastL_len (zs : List Int) : (leastL zs).length ≤ 1000 := by
  unfold leastL
  rcases leastB zs with _ | _
  · rw [ifL_no]; simp
  · rw [ifL_yes]; have := firstL_len zs; omega
theorem leastN_no {zs : List Int} (h : leastB zs = false) : leastL zs = [] ∧ leastW zs = 0 := by unfold leastL leastW; rw [h]; exact ⟨rfl, rfl⟩
theorem leastN_yes {zs : List Int} (h : leastB zs = true) : leastL zs = firstL zs ∧ leastW zs = zs.length := by unfold leastL leastW; rw [h]; exact ⟨rfl, rfl⟩

/-- n - 1, .., 1, 0 -/
def revL (n : Nat) : List Int := (List.range n).map fun (j : Nat) => (n : Int) - 1 - (j : Int)
theorem revL_length (n : Nat) : (revL n).length = n := by simp [revL]
theorem gi_revL {n j : Nat} (h : j < n) : gi (revL n) j = (n : Int) - 1 - j := by rw [gi_lt (by rw [revL_length]; exact h)]; simp [revL]
theorem revL_take {n k : Nat} (h : k < n) : (revL n).take (k + 1) = (revL n).take k ++ [(n : Int) - 1 - k] := by
  have hl := revL_length n
  rw [List.take_succ_eq_append_getElem (by omega), ← gi_lt, gi_revL h]
theorem revL_in8 {n : Nat} (h : n ≤ 8) : Inn8 (revL n) := by
  refine ⟨by rw [revL_length]; exact h, fun j hj => ?_⟩
  rw [revL_length] at hj
  rw [gi_revL hj]; omega
theorem revL_ord {n : Nat} (h : 2 ≤ n) (h8 : n ≤ 8) : ord (revL n) = true := by
  have : n = 2 ∨ n = 3 ∨ n = 4 ∨ n = 5 ∨ n = 6 ∨ n = 7 ∨ n = 8 := by omega
  rcases this with rfl | rfl | rfl | rfl | rfl | rfl | rfl <;> decide +kernel
def lgB (x : Int) : Bool := inB x 2 8
def lgL (x : Int) : List Int := ifL (lgB x) (firstL (revL x.toNat))
theorem lgL_len (x : Int) : (lgL x).length ≤ 1000 := by
  unfold lgL
  rcases lgB x with _ | _
  · rw [ifL_no]; simp
  · rw [ifL_yes]; have := firstL_len (revL x.toNat); omega

set_option maxRecDepth 100000 in
set_option maxHeartbeats 2000000 in
theorem sLongestLadder_any (x : Int) (w : World) (_lo : -9223372036854775808 ≤ x) (_hi : x ≤ 9223372036854775807) :
    Calls Try.prog 35 #[.int .i64 x] w (FreshLB w (ifW (lgB x) x) (lgL x).length (lgL x) (lgB x)) := by
  have HB := belAlloc (belRefl (w := w)) (.cells #[.int .i64 0, .slice none 0 0] 28)
  have HC := cellNew w (.int .i64 0) (.slice none 0 0) 28
  unfold lgL
  rcases hq : lgB x with _ | _
  · rw [ifW_no, ifL_no]
    have HW : Hid (inB x 2 8 = false) := hq
    clear hq
    go_enter Try.func35, Try.ntmps35
    go_wp2_with (go_at_call 60; refine (l1In_any _ _ _ _).mono ?_; rw [HW.out]; rintro e w' ⟨rfl, rfl⟩)
    exact bodyPost_ret (v := .tuple #[.agg #[.int .i64 0, .slice none 0 0], .bool false]) (by simp [results, Try.results35, go_sem]) rfl ⟨none, 0, rfl, OI.none_ _ _, (by repeat (first | exact Below.refl _ _ | exact HB.out | refine Below.setCell ?_ (by simp <;> omega) _ | refine Below.alloc ?_ (by simp <;> omega) _ | refine below_drewN ?_ _))⟩
  · rw [ifW_yes, ifL_yes]
    have HW : Hid (inB x 2 8 = true) := hq
    have hx := inB_iff.1 hq
    obtain ⟨n, rfl⟩ : ∃ n : Nat, x = (n : Int) := ⟨x.toNat, by omega⟩
    rw [Int.toNat_natCast]
    have h2 : 2 ≤ n := by omega
    have h8 : n ≤ 8 := by omega
    clear hq hx
    go_enter Try.func35, Try.ntmps35
    go_wp2_with (go_at_call 60; refine (l1In_any _ _ _ _).mono ?_; rw [HW.out]; rintro e w' ⟨rfl, rfl⟩)
    have hz0 : w.heap.size < (w.alloc (.cells #[.int .i64 0, .slice none 0 0] 28)).heap.size := by simp
    obtain ⟨w1, hw1⟩ : ∃ w1, w1 = w.alloc (.cells #[.int .i64 0, .slice none 0 0] 28) := ⟨_, rfl⟩
    rw [← hw1] at HB HC hz0 ⊢
    clear hw1
    go_loopw [4, 5] (fun s4 i wr => ∃ (k : Nat) (A : Option Addr) (c : Nat), k ≤ n ∧ i = .int .i64 ((n : Int) - 1 - k) ∧ s4 = .slice A k c ∧ OI wr w1.heap.size A k c ((revL n).take k) ∧ Below w1.heap.size w1 wr) (fun _ i _ => (intOf i + 1).toNat)
    case atStart => exact ⟨0, none, 0, Nat.zero_le _, by simp, rfl, OI.none_ _ _, Below.refl _ _⟩
    case round =>
      obtain ⟨k, A1, c1, hk, rfl, rfl, ho, hb⟩ := hrel
      have HO := Lib.hid ho
      have H1 := Lib.hid hb
      clear ho hb
      by_cases hlt : k < n
      · have HT := Lib.hid (revL_take hlt)
        go_wp2_with (at_builtin; refine wpList_append_int _ rfl _ _ rfl w1.heap.size A1 k c1 _ ((n : Int) - 1 - k) _ rfl rfl (HO.out.alloc _) (cellNewAt _ _ _ rfl) (by omega) (by have := H1.out.size; simp; omega) ?_; intro A2 c2 w2 ho2 hg2; have HO2 := Lib.hid ho2; have H2 := belGrown (belAlloc H1 _) (HO.out.alloc _) hg2 (Nat.le_refl _); clear ho2 hg2)
        go_roundw
        case rel => exact ⟨k + 1, A2, c2, hlt, by go_num, rfl, by rw [HT.out]; exact HO2.out, H2.out⟩
        case measure => simp [intOf]; omega
      · obtain rfl : k = n := by omega
        have e : (revL k).take k = revL k := List.take_of_length_le (by rw [revL_length]; omega)
        rw [e] at HO
        replace HB := belStep HB H1.out
        replace HC := cellStep HC H1.out
        go_wp2_with fail
        refine (lsFirst_any A1 k c1 (revL k) _ HO.out.ri (revL_in8 h8) (by omega)).mono ?_
        rintro e w2 ⟨A2, c2, rfl, o2, hb⟩
        replace HC := cellStep HC hb
        replace HB := belStep HB hb
        have HZ := H1.out.size
        have HO2 := Lib.hid o2
        have k0 := HC.out.c0; have k1 := HC.out.c1; have f0 := HC.out.f0; have f1 := HC.out.f1; have hz := HC.out.lt
        clear hb o2
        go_wp2
        exact bodyPost_ret (v := .tuple #[.agg #[.int .i64 k, .slice A2 (firstL (revL k)).length c2], .bool true]) (by simp [results, Try.results35, go_sem, k0, k1]) rfl
          ⟨A2, c2, rfl, ((HO2.out.setBelow (by first | omega | (simp; omega)) _).setBelow (by first | omega | (simp; omega)) _).mono (by first | omega | (simp; omega)), (by repeat (first | exact Below.refl _ _ | exact HB.out | refine Below.setCell ?_ (by simp <;> omega) _ | refine Below.alloc ?_ (by simp <;> omega) _ | refine below_drewN ?_ _))⟩
end Go.Proofs.Ytamkkmjldkhicaa
namespace Go.Proofs.Ytamkkmjldkhicaa
open Go Go.RowKit

/-- inversions, counted along the list -/
def invL : List Int → Nat
  | [] => 0
  | x :: xs => xs.countP (fun y => decide (y < x)) + invL xs
theorem invL_swap {x y : Int} (h : y < x) (s : List Int) : ∀ (p : List Int), invL (p ++ x :: y :: s) = invL (p ++ y :: x :: s) + 1
  | [] => by
    have e1 : decide (y < x) = true := by simpa using h
    have e2 : decide (x < y) = false := by simp; omega
    simp only [List.nil_append, invL, List.countP_cons, e1, e2]
    simp
    omega
  | a :: p => by
    have ih := invL_swap h s p
    simp only [List.cons_append, invL, ih]
    have e : (p ++ x :: y :: s).countP (fun z => decide (z < a)) = (p ++ y :: x :: s).countP (fun z => decide (z < a)) :=
      (List.Perm.append_left p (List.Perm.swap y x s)).countP_eq _
    omega
theorem exch_cat {zs : List Int} {i : Nat} (h : i + 1 < zs.length) : exch zs i = zs.take i ++ gi zs (i + 1) :: gi zs i :: zs.drop (i + 2) := by
  have := sldL_cat (zs := zs) (k := i) (by omega)
  rw [show exch zs i = sldL zs i from rfl, this]
  simp
theorem invL_exch {zs : List Int} {i : Nat} (h : i + 1 < zs.length) (hd : gi zs (i + 1) < gi zs i) : invL zs = invL (exch zs i) + 1 := by
  have e := take_drop2 (zs := zs) (k := i) (by omega)
  have e2 : zs = zs.take i ++ gi zs i :: gi zs (i + 1) :: zs.drop (i + 2) := by
    conv => lhs; rw [e]
    simp
  rw [exch_cat h]
  conv => lhs; rw [e2]
  exact invL_swap hd _ _
theorem cntB_count (zs : List Int) (k : Nat) : ∀ (m : Nat), m ≤ zs.length - (k + 1) → cntB zs k m = ((zs.drop (k + 1)).take m).countP (fun y => decide (y < gi zs k))
  | 0, _ => by simp [cntB]
  | m + 1, h => by
    have hlen : m < (zs.drop (k + 1)).length := by simp; omega
    rw [List.take_succ_eq_append_getElem hlen, List.countP_append, ← cntB_count zs k m (by omega)]
    have e : (zs.drop (k + 1))[m] = gi zs (k + 1 + m) := by rw [gi_lt (by omega)]; simp
    rw [e]
    simp only [cntB]
    congr 1
    by_cases hq : gi zs (k + 1 + m) < gi zs k
    · rw [if_pos hq]; simp [hq]
    · rw [if_neg hq]; simp [hq]
theorem invN_drop (zs : List Int) : ∀ (k : Nat), k ≤ zs.length → invN zs k + invL (zs.drop k) = invL zs
  | 0, _ => by simp [invN]
  | k + 1, h => by
    have ih := invN_drop zs k (by omega)
    rw [← ih, List.drop_eq_getElem_cons (i := k) (l := zs) (by omega)]
    simp only [invN, invL]
    rw [cntB_count zs k _ (Nat.le_refl _), List.take_of_length_le (by simp), gi_lt (by omega)]
    omega
theorem invN_all (zs : List Int) : invN zs zs.length = invL zs := by
  have := invN_drop zs zs.length (Nat.le_refl _)
  simpa [invL] using this
theorem invs_invL (zs : List Int) : (invs zs).length = invL zs := by unfold invs; rw [invN_len, invN_all]
theorem invN_le7 {zs : List Int} (h : zs.length ≤ 8) : ∀ (k : Nat), invN zs k ≤ 7 * k
  | 0 => Nat.le_refl _
  | k + 1 => by
    have h1 := invN_le7 h k
    have h2 := cntB_le zs k (zs.length - (k + 1))
    simp only [invN]
    omega
theorem invL_le {zs : List Int} (h : zs.length ≤ 8) : invL zs ≤ 56 := by
  have := invN_le7 h zs.length
  rw [invN_all] at this
  omega
/-- without descents there are no inversions -/
theorem mono_of {zs : List Int} {n : Nat} (h : ∀ j, j < n → ¬ gi zs (j + 1) < gi zs j) {i : Nat} : ∀ (d : Nat), i + d ≤ n → gi zs i ≤ gi zs (i + d)
  | 0, _ => Int.le_refl _
  | d + 1, hd => by
    have h1 := mono_of h (i := i) d (by omega)
    have h2 := h (i + d) (by omega)
    rw [show i + (d + 1) = i + d + 1 by omega]
    omega
theorem cntB_zero {zs : List Int} {n i : Nat} (h : ∀ j, j < n → ¬ gi zs (j + 1) < gi zs j) : ∀ (m : Nat), i + m ≤ n → cntB zs i m = 0
  | 0, _ => rfl
  | m + 1, hm => by
    have h1 := mono_of h (i := i) (m + 1) (by omega)
    rw [cntB_no (by rw [show i + 1 + m = i + (m + 1) by omega]; omega)]
    exact cntB_zero h m (by omega)
theorem invL_zero {zs : List Int} (h : fdsc zs (zs.length - 1) = none) : invL zs = 0 := by
  rw [← invN_all]
  have hn := fdsc_none _ h
  have : ∀ k, k ≤ zs.length → invN zs k = 0 := by
    intro k
    induction k with
    | zero => intro _; rfl
    | succ k ih =>
      intro hk
      simp only [invN]
      rw [ih (by omega), cntB_zero hn _ (by omega)]
  exact this _ (Nat.le_refl _)
theorem firstF_len' : ∀ (f : Nat) (zs : List Int), invL zs ≤ f → (firstF f zs).length = invL zs
  | 0, zs, h => by simp [firstF]; omega
  | f + 1, zs, h => by
    unfold firstF
    cases hd : fdsc zs (zs.length - 1) with
    | none => simp [invL_zero hd]
    | some i =>
      obtain ⟨h1, h2, _⟩ := fdsc_some _ hd
      have e := invL_exch (zs := zs) (i := i) (by omega) h2
      simp only [List.length_cons]
      rw [firstF_len' f _ (by omega), e]
theorem firstL_inv {zs : List Int} (h : zs.length ≤ 8) : (firstL zs).length = invL zs := firstF_len' _ _ (by have := invL_le h; omega)
theorem firstF_in : ∀ (f : Nat) (zs : List Int), ∀ x ∈ firstF f zs, 0 ≤ x ∧ x + 2 ≤ zs.length
  | 0, zs => by simp [firstF]
  | f + 1, zs => by
    intro x hx
    unfold firstF at hx
    cases hd : fdsc zs (zs.length - 1) with
    | none => rw [hd] at hx; simp at hx
    | some i =>
      rw [hd] at hx
      obtain ⟨h1, _, _⟩ := fdsc_some _ hd
      simp only [List.mem_cons] at hx
      rcases hx with rfl | hx
      · omega
      · have := firstF_in f _ x hx
        rwa [exch_length] at this
theorem firstL_in {zs : List Int} : ∀ x ∈ firstL zs, 0 ≤ x ∧ x + 2 ≤ zs.length := firstF_in _ _
end Go.Proofs.Ytamkkmjldkhicaa
