/- The placing game: the wires from which the first one can win, of the program; the model's table of winning wires. -/
import Derived.Test.YtbfdpjnkpclcbaaGp2
import Derived.Test.YtbfdpjnkpclcbaaMgD
import Derived.Test.YtbfdpjnkpclcbaaGn1
namespace Go.Proofs.Ytbfdpjnkpclcbaa
open Go Go.RowKit

/-- the numbers below k that pass -/
def flK (f : Nat → Bool) : Nat → List Int
  | 0 => []
  | k + 1 => if f k = true then flK f k ++ [(k : Int)] else flK f k
theorem flK_yes {f : Nat → Bool} {k : Nat} (h : f k = true) : flK f (k + 1) = flK f k ++ [(k : Int)] := by simp only [flK]; rw [if_pos h]
theorem flK_no {f : Nat → Bool} {k : Nat} (h : f k = false) : flK f (k + 1) = flK f k := by simp only [flK]; rw [if_neg (by rw [h]; decide)]
theorem flK_len (f : Nat → Bool) : ∀ k, (flK f k).length ≤ k
  | 0 => Nat.le_refl _
  | k + 1 => by have := flK_len f k; simp only [flK]; split <;> simp <;> omega
theorem flK_congr {f g : Nat → Bool} : ∀ k, (∀ j, j < k → f j = g j) → flK f k = flK g k
  | 0, _ => rfl
  | k + 1, h => by simp only [flK]; rw [flK_congr k (fun j hj => h j (by omega)), h k (by omega)]
/-- the wires from which the first one can win -/
def plsB (n g m : Int) : Bool := plB n 0 g m
def plsL (n g m : Int) : List Int := if plsB n g m = true then flK (fun (a : Nat) => plwB n (a : Int) g m) n.toNat else []
theorem plsL_no {n g m : Int} (h : plsB n g m = false) : plsL n g m = [] := by unfold plsL; rw [h]; rfl
theorem plsL_yes {n g m : Int} (h : plsB n g m = true) : plsL n g m = flK (fun (a : Nat) => plwB n (a : Int) g m) n.toNat := by unfold plsL; rw [if_pos h]
theorem plsL_le (n g m : Int) : (plsL n g m).length ≤ 1000 := by
  rcases h : plsB n g m with _ | _
  · rw [plsL_no h]; simp
  · rw [plsL_yes h]
    have := flK_len (fun a => plwB n (a : Int) g m) n.toNat
    have := plB_iff.1 h
    omega

set_option maxRecDepth 100000 in
set_option maxHeartbeats 2000000 in
theorem iPlacesWon_any (n g m : Int) (w : World) :
    Calls Try.prog 30 #[.int .i64 n, .int .i64 g, .int .i64 m] w (FreshIB w (plsL n g m).length (plsL n g m) (plsB n g m)) := by
  have HI := Lib.hid (fun w2 => isPlacing_any n 0 g m w2)
  have HIW := Lib.hid (fun (a : Nat) w2 => iPlaceWinner_any n (a : Int) g m w2)
  rcases hq : plsB n g m with _ | _
  · rw [plsL_no hq]
    unfold plsB at hq
    rw [hq] at HI
    clear hq HIW
    go_enter Try.func30, Try.ntmps30
    go_wp2_with fail
    refine (HI.out _).mono ?_
    rintro e w1 ⟨rfl, hb⟩
    have HB := Lib.hid hb
    clear hb
    go_wp2
    go_ret2
    exact ⟨none, 0, rfl, OI.none_ _ _, HB.out⟩
  · rw [plsL_yes hq]
    unfold plsB at hq
    rw [hq] at HI
    obtain ⟨hn, _, hg, hm⟩ := plB_iff.1 hq
    obtain ⟨N, rfl⟩ : ∃ N : Nat, n = (N : Int) := ⟨n.toNat, by omega⟩
    rw [Int.toNat_natCast]
    have HPB := Lib.hid (fun (a : Nat) (ha : a < N) => show plB (N : Int) (a : Int) g m = true from plB_iff.2 ⟨hn, by omega, hg, hm⟩)
    obtain ⟨f, hf⟩ : ∃ f : Nat → Bool, f = fun (a : Nat) => plwB (N : Int) (a : Int) g m := ⟨_, rfl⟩
    rw [← hf]
    have HF : Hid (∀ a : Nat, plwB (N : Int) (a : Int) g m = f a) := Lib.hid (fun a => by rw [hf])
    clear hq hf
    go_enter Try.func30, Try.ntmps30
    go_wp2_with fail
    refine (HI.out _).mono ?_
    rintro e w1 ⟨rfl, hb⟩
    have HB := Lib.hid hb
    clear hb HI
    go_wp2
    go_loopw [8, 18] (fun v i wr => ∃ (k : Nat) (E : Option Addr) (d : Nat), k ≤ N ∧ i = .int .i64 (k : Int) ∧ v = .slice E (flK f k).length d ∧ OI wr w1.heap.size E (flK f k).length d (flK f k) ∧ Below w1.heap.size w1 wr) (fun _ i _ => N - (intOf i).toNat)
    case atStart => exact ⟨0, none, 0, Nat.zero_le _, rfl, rfl, OI.none_ _ _, Below.refl _ _⟩
    case round =>
      obtain ⟨k, E, d, hk, rfl, rfl, ho, hb⟩ := hrel
      have HO := Lib.hid ho; have HBr := Lib.hid hb
      have hgl := flK_len f k
      clear ho hb
      by_cases hkn : k < N
      · have HW := Lib.hid (fun w2 => HIW.out k w2)
        rw [HPB.out k hkn, HF.out k] at HW
        have hY := Lib.hid (@flK_yes f k)
        have hNo := Lib.hid (@flK_no f k)
        obtain ⟨q, hq⟩ : ∃ q, q = f k := ⟨_, rfl⟩
        rw [← hq] at HW hY hNo
        clear hq
        go_wp2_with fail
        refine (HW.out _).mono ?_
        rintro e w2 ⟨rfl, hb⟩
        replace HO := oiStepG HO hb
        replace HBr := belStep HBr hb
        have hzz := HBr.out.size
        clear hb HW
        cases q
        · have HL := Lib.hid (hNo.out rfl)
          go_wp2
          go_roundw
          case rel => exact ⟨k + 1, E, d, by omega, by go_num, by rw [HL.out], by rw [HL.out]; exact HO.out, HBr.out⟩
          case measure => simp [intOf]; omega
        · have HL := Lib.hid (hY.out rfl)
          have HLl := Lib.hid (show (flK f (k + 1)).length = (flK f k).length + 1 by rw [hY.out rfl]; simp)
          go_wp2_with (at_builtin; refine wpList_append_int _ rfl _ _ rfl w1.heap.size E (flK f k).length d _ (k : Int) _ rfl rfl (HO.out.alloc _) (by simp) (by omega) (by simp; omega) ?_; intro E5 d5 w5 ho5 hg5; have HBK := Lib.hid (below_ap (K := w1.heap.size) HO.out hg5 (Nat.le_refl _) (by omega)); clear hg5)
          go_roundw
          case rel => exact ⟨k + 1, E5, d5, by omega, by go_num, by rw [HLl.out], by rw [HLl.out, HL.out]; exact ho5, HBr.out.trans HBK.out⟩
          case measure => simp [intOf]; omega
      · obtain rfl : k = N := by omega
        go_wp2
        go_ret2
        exact ⟨E, d, rfl, HO.out.mono HB.out.size, HB.out.trans (HBr.out.mono HB.out.size)⟩

/-- a row of the call's own that holds truth values -/
def OBr (w : World) (B b : Nat) (n : Nat) (f : Nat → Bool) : Prop := B ≤ b ∧ w.rowIs b 4 n (fun a => .bool (f a))
theorem obStep {wi wj : World} {B b n : Nat} {f : Nat → Bool} (h : Hid (OBr wi B b n f)) (hb : Below wi.heap.size wi wj) : Hid (OBr wj B b n f) := ⟨h.out.1, (rowStep (Lib.hid h.out.2) hb).out⟩
def GpPost (N goal : Nat) (fs : Nat → Bool) (M : Nat) (w : World) (e : Ending) (w' : World) : Prop :=
  ∃ b, e = .returned (.slice (some ⟨b, 0, none⟩) N N) ∧ OBr w' w.heap.size b N (wnL N goal fs M) ∧ Below w.heap.size w w'

/-- some, and all, of the first k rungs -/
def smK (f : Nat → Bool) : Nat → Bool
  | 0 => false
  | k + 1 => smK f k || f k
def alK (f : Nat → Bool) : Nat → Bool
  | 0 => true
  | k + 1 => alK f k && f k
theorem smK_any (f : Nat → Bool) : ∀ k, smK f k = (List.range k).any f
  | 0 => rfl
  | k + 1 => by rw [List.range_succ, List.any_append, smK, smK_any f k]; simp
theorem alK_all (f : Nat → Bool) : ∀ k, alK f k = (List.range k).all f
  | 0 => rfl
  | k + 1 => by rw [List.range_succ, List.all_append, alK, alK_all f k]; simp
/-- the table behind wire k of a step -/
def wnStep (N goal : Nat) (fs : Nat → Bool) (i k a : Nat) : Bool := decide (a < k) && wnL N goal fs i a
theorem wnL_step (N goal : Nat) (fs : Nat → Bool) (l a : Nat) : wnL N goal fs (l + 1) a = if fs (l + 1) = true then smK (fun j => wnL N goal fs l (ovr a j)) (N - 1) else alK (fun j => wnL N goal fs l (ovr a j)) (N - 1) := by
  rw [smK_any, alK_all, wnL]

theorem rowMadeSet (w : World) (x v : Value) (n : Nat) (t : TypeId) (goal : Nat) : (w.alloc (.cells ((madeCells #[x] n).setIfInBounds goal v) t)).rowIs w.heap.size t n (fun a => if a = goal then v else x) := by
  obtain ⟨c, hh, hs, hc⟩ := World.rowIs_made w x n t
  rw [heap_alloc_new] at hh
  have e : madeCells #[x] n = c := by injection hh with hh; injection hh
  rw [e]
  refine ⟨_, heap_alloc_new w _, by simpa using hs, fun i hi => ?_⟩
  rw [Array.getElem?_setIfInBounds]
  by_cases h : goal = i
  · subst h; simp [hs, hi]
  · rw [if_neg h, hc i hi]
    show some x = some (if i = goal then v else x)
    rw [if_neg (fun e => h e.symm)]

set_option maxRecDepth 100000 in
set_option maxHeartbeats 8000000 in
theorem gaPlaces_any (N goal M : Nat) (first : Bool) (w : World) (h2 : 2 ≤ N) (h8 : N ≤ 8) (hg : goal < N) (hM : M ≤ 8) :
    Calls Try.prog 46 #[.int .i64 (N : Int), .int .i64 (goal : Int), .int .i64 (M : Int), .bool first] w (GpPost N goal (fsP M first) M w) := by
  have hmk := run_make_row' (P := Try.prog) 47 4 (.bool false) 1 Try.underlying47 infoBoolG rfl .i64 .i64 N (by omega) (by omega)
  have hgi : (goal : Int) < (N : Int) := by omega
  obtain ⟨fs, hfs⟩ : ∃ fs : Nat → Bool, fs = fsP M first := ⟨_, rfl⟩
  rw [← hfs]
  have HFS : Hid (∀ l, fs l = (first == decide ((M - l) % 2 = 0))) := Lib.hid (fun l => by rw [hfs]; rfl)
  have HR0 := Lib.hid (World.rowIs_made w (.bool false) N 4)
  have hd := HR0.out.cell hg
  have hf := HR0.out.frozen goal
  clear hfs
  go_enter Try.func46, Try.ntmps46
  go_wp2
  go_loopw [9, 10] (fun v i wr => ∃ (l b : Nat), l ≤ M ∧ i = .int .i64 ((l + 1 : Nat) : Int) ∧ v = .slice (some ⟨b, 0, none⟩) N N ∧ OBr wr w.heap.size b N (wnL N goal fs l) ∧ Below w.heap.size w wr) (fun _ i _ => M + 1 - (intOf i).toNat)
  case atStart =>
    refine ⟨0, w.heap.size, Nat.zero_le _, rfl, rfl, ⟨Nat.le_refl _, ?_⟩, (by repeat (first | exact Below.refl _ _ | exact HB.out | refine Below.setCell ?_ (by simp <;> omega) _ | refine Below.alloc ?_ (by simp <;> omega) _ | refine below_drewN ?_ _))⟩
    exact (rowMadeSet w (.bool false) (.bool true) N 4 goal).congr (fun a _ => by
      by_cases e : a = goal
      · simp [wnL, e]
      · simp [wnL, e])
  case round =>
    obtain ⟨l, b, hl, rfl, rfl, ho, hb⟩ := hrel
    obtain ⟨wo, hwo⟩ : ∃ v : World, v = wr := ⟨_, rfl⟩
    subst hwo
    have HO := Lib.hid ho; have HB := Lib.hid hb
    have hbw : w.heap.size ≤ wo.heap.size := hb.size
    obtain ⟨hBb, hrow⟩ := ho
    have hbl : b < wo.heap.size := by obtain ⟨c, hh, _⟩ := hrow; exact (Array.getElem?_eq_some_iff.1 hh).1
    clear hb hrow hd hf
    by_cases hlM : l < M
    · have HSTo := Lib.hid (wnL_step N goal fs l)
      obtain ⟨i0, hi0⟩ : ∃ i0, i0 = l + 1 := ⟨_, rfl⟩
      have HI0 := Lib.hid hi0
      rw [← hi0] at HSTo ⊢
      have hli : (i0 : Int) ≤ (M : Int) := by omega
      obtain ⟨mine, hmine⟩ : ∃ mine, mine = fs i0 := ⟨_, rfl⟩
      have hmq : (first == (((M : Int) - (i0 : Int)) % 2 == 0)) = mine := by
        rw [hmine, HFS.out i0]
        congr 1
        by_cases h : (M - i0) % 2 = 0
        · rw [decide_eq_true h, beq_iff_eq]; omega
        · rw [decide_eq_false h, beq_eq_false_iff_ne]; omega
      rw [← hmine] at HSTo
      have HMI := Lib.hid hmine
      have HRn := Lib.hid (World.rowIs_made wo (.bool false) N 4)
      clear hmine hi0
      go_wp2
      try rw [hmq]
      clear hmq
      generalize ((M : Int) - (i0 : Int)) % 2 = z1
      generalize (M : Int) - (i0 : Int) = z2
      obtain ⟨nb, hnb⟩ : ∃ nb, nb = wo.heap.size := ⟨_, rfl⟩
      rw [← hnb] at HRn hbl hbw ⊢
      have HNB := Lib.hid hnb
      have HO1 : Hid (OBr (wo.alloc (.cells (madeCells #[.bool false] N) 4)) w.heap.size b N (wnL N goal fs l)) := obStep HO (allocBelG wo _)
      have HB1 : Hid (Below w.heap.size w (wo.alloc (.cells (madeCells #[.bool false] N) 4))) := belAlloc HB _
      clear hnb hmk
      go_loopw [13] (fun i wr => ∃ k : Nat, k ≤ N ∧ i = .int .i64 (k : Int) ∧ OBr wr w.heap.size b N (wnL N goal fs l) ∧ wr.rowIs nb 4 N (fun a => .bool (wnStep N goal fs i0 k a)) ∧ Below w.heap.size w wr) (fun i _ => N - (intOf i).toNat)
      case atStart => exact ⟨0, Nat.zero_le _, rfl, HO1.out, HRn.out.congr (fun a _ => by simp [wnStep]), HB1.out⟩
      case round =>
        obtain ⟨k, hk, rfl, ho, hrn, hb⟩ := hrel
        obtain ⟨wv, hwv⟩ : ∃ v : World, v = wr := ⟨_, rfl⟩
        subst hwv
        have HOr := Lib.hid ho; have HRr := Lib.hid hrn; have HBr := Lib.hid hb
        clear ho hrn hb
        by_cases hkN : k < N
        · have hki : (k : Int) < (N : Int) := by omega
          go_wp2
          obtain ⟨f, hf⟩ : ∃ f : Nat → Bool, f = fun j => wnL N goal fs l (ovr k j) := ⟨_, rfl⟩
          have HF : Hid (∀ j, f j = wnL N goal fs l (ovr k j)) := Lib.hid (fun j => by rw [hf])
          have HST := Lib.hid (HSTo.out k)
          rw [← hf] at HST
          clear hf
          go_loopw [14, 15, 16] (fun s a i wr => ∃ j : Nat, j + 1 ≤ N ∧ i = .int .i64 (j : Int) ∧ s = .bool (smK f j) ∧ a = .bool (alK f j) ∧ wr = wv) (fun _ _ i _ => N - (intOf i).toNat)
          case atStart => exact ⟨0, by omega, rfl, rfl, rfl, rfl⟩
          case round =>
            obtain ⟨j, hj, rfl, rfl, rfl, rfl⟩ := hrel
            have hNw : IntKind.i64.wrap ((N : Int) - 1) = (N : Int) - 1 := IntWalk.i64_in _ (by omega)
            by_cases hjN : j + 1 < N
            · have hji : (j : Int) < (N : Int) - 1 := by omega
              have hov := ovr_lt hkN hjN
              have hcell := HOr.out.2.cell hov
              rw [← HF.out j] at hcell
              have HOV := Lib.hid (fun w2 => laOver_any (k : Int) (j : Int) w2 (by omega))
              rw [ovr_over] at HOV
              obtain ⟨o, ho⟩ : ∃ o, o = ovr k j := ⟨_, rfl⟩
              rw [← ho] at hcell HOV hov
              have hoi : (o : Int) < (N : Int) := by omega
              have hS := Lib.hid (show smK f (j + 1) = (smK f j || f j) from rfl)
              have hA := Lib.hid (show alK f (j + 1) = (alK f j && f j) from rfl)
              obtain ⟨sm, hsm⟩ : ∃ sm, sm = smK f j := ⟨_, rfl⟩
              obtain ⟨al, hal⟩ : ∃ al, al = alK f j := ⟨_, rfl⟩
              obtain ⟨fj, hfj⟩ : ∃ fj, fj = f j := ⟨_, rfl⟩
              rw [← hsm, ← hfj] at hS
              rw [← hal, ← hfj] at hA
              rw [← hfj] at hcell
              rw [← hsm, ← hal]
              clear ho hsm hal hfj
              cases sm <;> cases al
              all_goals
                go_wp2_with (go_at_call 48; refine (HOV.out _).mono ?_; rintro e w' ⟨rfl, rfl⟩)
                go_roundw
                case rel => exact ⟨j + 1, by omega, by go_num, by rw [hS.out]; rfl, by rw [hA.out]; rfl, by first | rfl | trivial⟩
                case measure => simp [intOf]; omega
            · have hjE : N - 1 = j := by omega
              have hji : ¬ ((j : Int) < (N : Int) - 1) := by omega
              have hji2 : (N : Int) - 1 ≤ (j : Int) := by omega
              rw [hjE] at HST
              have hd := HRr.out.cell hkN
              have hf := HRr.out.frozen k
              obtain ⟨sm, hsm⟩ : ∃ sm, sm = smK f j := ⟨_, rfl⟩
              obtain ⟨al, hal⟩ : ∃ al, al = alK f j := ⟨_, rfl⟩
              rw [← hsm, ← hal] at HST
              rw [← hsm, ← hal]
              have HREL : Hid (∀ v : Bool, v = wnL N goal fs i0 k → (wr.setCell ⟨nb, k, none⟩ (.bool v)).rowIs nb 4 N (fun a => .bool (wnStep N goal fs i0 (k + 1) a))) := Lib.hid (fun v hv => (HRr.out.set k (.bool v)).congr (fun a _ => by
                by_cases e : a = k
                · subst e
                  rw [if_pos rfl, hv]
                  unfold wnStep
                  rw [decide_eq_true (by omega)]; rfl
                · rw [if_neg e]
                  unfold wnStep
                  by_cases e2 : a < k
                  · rw [decide_eq_true e2, decide_eq_true (by omega)]
                  · rw [decide_eq_false e2, decide_eq_false (by omega)]))
              have hbn : b ≠ nb := by omega
              have hwn : w.heap.size ≤ nb := by omega
              clear hsm hal hjE hjN
              cases mine <;> cases sm <;> cases al
              all_goals
                go_wp2
                go_roundw
                case rel => exact ⟨k + 1, by omega, by go_num, ⟨HOr.out.1, HOr.out.2.setOther (by simpa using hbn) _⟩, HREL.out _ (by rw [HST.out]; rfl), HBr.out.setCell (by simpa using hwn) _⟩
                case measure => simp [intOf]; omega
        · obtain rfl : k = N := by omega
          have HNE : Hid (OBr wv w.heap.size nb k (wnL k goal fs i0)) := Lib.hid ⟨by omega, HRr.out.congr (fun a ha => by unfold wnStep; rw [decide_eq_true ha]; rfl)⟩
          go_wp2
          go_roundw
          case rel => exact ⟨i0, nb, by omega, by go_num, rfl, HNE.out, HBr.out⟩
          case measure => simp [intOf]; omega
    · obtain rfl : l = M := by omega
      have hli : ¬ ((l + 1 : Nat) : Int) ≤ (l : Int) := by omega
      go_wp2
      go_ret
      exact ⟨b, rfl, HO.out, HB.out⟩
end Go.Proofs.Ytbfdpjnkpclcbaa
