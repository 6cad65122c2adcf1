/- In how many ladders with one more rung the first two meet at this rung, as the program counts it. -/
import Derived.Test.YtpnabofgpeffkaaCe16
namespace Go.Proofs.Ytpnabofgpeffkaa
open Go Go.RowKit Go.Maps

theorem W_le {f : List Int → Nat} {c : Nat} (h : ∀ e, f e ≤ c) (D : DataW Unit) : W f D ≤ c * W one D := by
  unfold W wt wtL
  rw [← ssum_mul]
  refine ssum_le _ _ _ fun p _ => ?_
  rw [← Nat.mul_assoc]
  refine Nat.mul_le_mul_right _ ?_
  unfold gE one
  split
  · have := h (Classical.choose ‹_›)
    omega
  · omega
/-- while the entries are gone through -/
structure Met (m : Nat) (D : DataW Unit) (left : Lit → Bool) (s : Nat) : Prop where
  has : ∀ kl, left kl = true → Maps.has D kl = true
  sum : s + Wl (mtK m) left D = W (mtK m) D
theorem Met.start {m n : Nat} {D : DataW Unit} (h : Gm n D) : Met m D (Maps.has D) 0 := ⟨fun _ h => h, by rw [Wl_start h, Nat.zero_add]⟩
theorem Met.done {m s : Nat} {D : DataW Unit} {left : Lit → Bool} (h : Met m D left s) (hl : ∀ kl, left kl = false) : s = W (mtK m) D := by
  have := h.sum
  rw [Wl_none _ hl] at this
  exact this
theorem Met.step {m n s c : Nat} {D : DataW Unit} {left : Lit → Bool} {e : List Int} (h : Met m D left s) (hG : Gm n D) (hn : n ≤ 6) (he : OKE n e) (hl : left (eL e) = true) (hat : at0 D (eL e) = c) : Met m D (fun z => left z && !z.sameKey (eL e)) (s + mtK m e * c) :=
  ⟨left_has h.has e, by
    have h1 := Wl_strike hG hn (mtK m) he hl
    have h2 := h.sum
    rw [hat] at h1
    omega⟩
theorem Met.small {m n s c q : Nat} {D : DataW Unit} {left : Lit → Bool} {e : List Int} (h : Met m D left s) (hG : Gm n D) (hn : n ≤ 6) (he : OKE n e) (hl : left (eL e) = true) (hat : at0 D (eL e) = c) (hq : mtK q e ≤ mtK m e) : s + mtK q e * c ≤ m * W one D := by
  have h1 := (h.step hG hn he hl hat).sum
  have h2 := W_le (mtK_le m) D
  have h3 : mtK q e * c ≤ mtK m e * c := Nat.mul_le_mul_right _ hq
  omega
theorem mtK_mono (e : List Int) {q m : Nat} (h : q ≤ m) : mtK q e ≤ mtK m e := by
  induction h with
  | refl => exact Nat.le_refl _
  | step _ ih => exact Nat.le_trans ih (by rw [mtK_succ]; omega)

set_option maxRecDepth 100000 in
set_option maxHeartbeats 8000000 in
theorem meetings_any (n B nb : Nat) (D : DataW Unit) (w : World) (hn2 : 2 ≤ n) (hn : n ≤ 6) (hown : OE w B nb D) (hG : Gm n D) (htot : (n - 1) * W one D ≤ 95367431640625) :
    Calls Try.prog 42 #[.map (some B), .int .i64 (n : Int)] w (RetI ((W (mtK (n - 1)) D : Nat) : Int) w) := by
  have HO := Lib.hid hown
  have HG := Lib.hid hG
  have HT := Lib.hid htot
  have hBw := hown.lt
  have hguard := guardEnds
  clear hown hG htot
  go_enter Try.func42, Try.ntmps42
  go_wp2_with (first
    | (at_range; refine wpList_range_own _ rfl _ 50 rfl 47 3 keyE Try.underlying50 _ B nb D rfl HO.out ?_; intro w0 hrg0 hg0 hs0))
  go_frame
  have HB0 : Hid (Below w.heap.size w w0) := Lib.hid ((Below.refl _ w).grown hg0 (Nat.le_refl _) (fun j hj => by cases hj))
  have HRG0 := Lib.hid hrg0
  obtain ⟨r, hr⟩ : ∃ r, r = w.heap.size := ⟨_, rfl⟩
  rw [← hr] at hs0 HRG0 HB0 hBw ⊢
  have HRR := Lib.hid hr
  have HS0 := Lib.hid hs0
  clear hrg0 hg0 hr hs0
  go_loopw [5, 8] (fun s5 _ wi => ∃ (left : Lit → Bool) (cnt s : Nat), s5 = .int .i64 (s : Int) ∧ wi.ranges Try.prog 47 (plainElem Try.prog 3) B r nb D left cnt ∧ Met (n - 1) D left s ∧ Below r w wi ∧ r + 1 ≤ wi.heap.size) (fun _ _ wi => wi.rangeLeft B r)
  case atStart => exact ⟨_, _, 0, rfl, HRG0.out, Met.start HG.out, HB0.out, by have := HS0.out; omega⟩
  case round =>
    obtain ⟨left, cnt, s, rfl, hrg, hmet, hbel, hsz⟩ := hrel
    have HRG := Lib.hid hrg
    have HL := Lib.hid hmet
    have HBEL := Lib.hid hbel
    clear hrg hmet hbel
    go_wp2_with (first
      | (at_next; refine wpList_next_OE _ rfl _ rfl B r nb n _ _ _ rfl HRG.out HG.out hn HL.out.has ?_ ?_))
    · intro hno
      have HN := Lib.hid (HL.out.done hno)
      clear hno
      go_wp2
      go_ret
      exact ⟨ret_i (by rw [HN.out]), HRR.out ▸ HBEL.out⟩
    · intro e c w1 cnt1 he hc0 hat hle hrg1 hlt1 hg1 hs1 hen
      have HE := Lib.hid he
      have HAT := Lib.hid hat
      have HLE := Lib.hid hle
      have HRG1 := Lib.hid hrg1
      have HBEL1 : Hid (Below r w w1) := Lib.hid (HBEL.out.grown hg1 (by omega) (fun j hj => by injection hj with hj; omega))
      have hz1 : r + 1 ≤ w1.heap.size := by omega
      have HLT := Lib.hid hlt1
      have HNX := Lib.hid (HL.out.step HG.out hn he hle hat)
      have HSM : Hid (∀ q, q ≤ n - 1 → s + mtK q e * c ≤ 95367431640625) := Lib.hid fun q hq => Nat.le_trans (HL.out.small HG.out hn he hle hat (mtK_mono e hq)) HT.out
      clear he hc0 hat hle hrg1 hlt1 hg1 hs1
      go_wp2
      have hc6 := cells_new6 w1 e 47
      obtain ⟨x, hx⟩ : ∃ x, x = w1.heap.size := ⟨_, rfl⟩
      obtain ⟨w2, hw2⟩ : ∃ w2, w2 = w1.alloc (.cells #[.int .i64 (gi e 0), .int .i64 (gi e 1), .int .i64 (gi e 2), .int .i64 (gi e 3), .int .i64 (gi e 4), .int .i64 (gi e 5)] 47) := ⟨_, rfl⟩
      rw [← hw2, ← hx] at hc6
      have HC2 := Lib.hid hc6
      have HRG2 : Hid (w2.ranges Try.prog 47 (plainElem Try.prog 3) B r nb D (fun z => left z && !z.sameKey (eL e)) cnt1) := Lib.hid (by rw [hw2]; exact HRG1.out.alloc _)
      have HBEL2 : Hid (Below r w w2) := Lib.hid (by rw [hw2]; exact HBEL1.out.alloc (by omega) _)
      have HX2 : Hid (r + 1 ≤ x ∧ x < w2.heap.size) := Lib.hid ⟨by omega, by rw [hw2, hx]; simp⟩
      rw [← hx, ← hw2]
      clear hw2 hx HRG1 HBEL1 hc6 hz1
      go_loopw [18, 5, 8] (fun s18 s5 _ wi => ∃ (q a : Nat), q + 1 ≤ n ∧ s18 = .int .i64 (q : Int) ∧ s5 = .int .i64 (a : Int) ∧ a = s + mtK q e * c ∧ wi.ranges Try.prog 47 (plainElem Try.prog 3) B r nb D (fun z => left z && !z.sameKey (eL e)) cnt1 ∧ (wi.cell? ⟨x, 0, none⟩ = some (.int .i64 (gi e 0)) ∧ wi.cell? ⟨x, 1, none⟩ = some (.int .i64 (gi e 1)) ∧ wi.cell? ⟨x, 2, none⟩ = some (.int .i64 (gi e 2)) ∧ wi.cell? ⟨x, 3, none⟩ = some (.int .i64 (gi e 3)) ∧ wi.cell? ⟨x, 4, none⟩ = some (.int .i64 (gi e 4)) ∧ wi.cell? ⟨x, 5, none⟩ = some (.int .i64 (gi e 5))) ∧ Below r w wi ∧ x < wi.heap.size) (fun s18 _ _ _ => n - (intOf s18).toNat)
      case atStart => exact ⟨0, s, by omega, rfl, rfl, by show s = s + 0 * c; rw [Nat.zero_mul, Nat.add_zero], HRG2.out, HC2.out, HBEL2.out, HX2.out.2⟩
      case round =>
        obtain ⟨q, a, hq, rfl, rfl, ha, hrg, hcs, hbel, hxl⟩ := hrel
        have HRG3 := Lib.hid hrg
        have HC3 := Lib.hid hcs
        have HBEL3 := Lib.hid hbel
        have HXL := Lib.hid hxl
        have HA := Lib.hid ha
        clear hrg hcs hbel hxl ha
        by_cases hlt : (q : Int) < (n : Int) - 1
        · have hq1 : q + 1 < n := by omega
          have HOV : Hid (∀ w, Calls Try.prog 48 #[.agg #[.int .i64 (gi e 0), .int .i64 (gi e 1), .int .i64 (gi e 2), .int .i64 (gi e 3), .int .i64 (gi e 4), .int .i64 (gi e 5)], .int .i64 (q : Int)] w (EndsPost (ovE e (q : Int)) w)) := fun w => over_any e n q w HE.out hn (by omega)
          have HEX : Hid (∀ w, Calls Try.prog 49 #[.agg #[.int .i64 (gi e 0), .int .i64 (gi e 1), .int .i64 (gi e 2), .int .i64 (gi e 3), .int .i64 (gi e 4), .int .i64 (gi e 5)]] w (EndsPost (exE e) w)) := fun w => exchanged_any e w HE.out.1
          have hsucc := mtK_succ q e
          have hsm := HSM.out (q + 1) (by omega)
          obtain ⟨E, hE⟩ : ∃ E, E = ovE e (q : Int) := ⟨_, rfl⟩
          obtain ⟨X, hX⟩ : ∃ X, X = exE e := ⟨_, rfl⟩
          have hEl : E.length = 6 := by rw [hE, ovE_length]; exact HE.out.1
          have hXl : X.length = 6 := by rw [hX, exE_length]; exact HE.out.1
          rw [← hE] at HOV
          rw [← hX] at HEX
          rw [← hE, ← hX] at hsucc
          rw [hsucc, Nat.add_mul] at hsm
          by_cases hEX : E = X
          · rw [if_pos hEX, Nat.one_mul] at hsm
            have heql : ∀ w' : World, (binOp .eql 47 (.agg #[.int .i64 (gi E 0), .int .i64 (gi E 1), .int .i64 (gi E 2), .int .i64 (gi E 3), .int .i64 (gi E 4), .int .i64 (gi E 5)]) (.agg #[.int .i64 (gi X 0), .int .i64 (gi X 1), .int .i64 (gi X 2), .int .i64 (gi X 3), .int .i64 (gi X 4), .int .i64 (gi X 5)])).run Try.prog w' = .ok (.bool true) w' := fun w' => by rw [eqlEnds w' E X hEl hXl, decide_eq_true hEX]
            have hac : (a : Int) + (c : Int) ≤ 95367431640625 := by have := HA.out; omega
            have HNA : Hid (a + c = s + mtK (q + 1) e * c) := Lib.hid (by rw [hsucc, if_pos hEX, Nat.add_mul, HA.out]; omega)
            clear hE hX hEX hsucc hsm
            go_wp2
            go_region_held3 (fun w' => w'.cell? ⟨x, 0, none⟩ = some (.int .i64 (gi e 0)) ∧ w'.cell? ⟨x, 1, none⟩ = some (.int .i64 (gi e 1)) ∧ w'.cell? ⟨x, 2, none⟩ = some (.int .i64 (gi e 2)) ∧ w'.cell? ⟨x, 3, none⟩ = some (.int .i64 (gi e 3)) ∧ w'.cell? ⟨x, 4, none⟩ = some (.int .i64 (gi e 4)) ∧ w'.cell? ⟨x, 5, none⟩ = some (.int .i64 (gi e 5)))
              (first | exact HC3.out | exact HC5.out | exact HC6.out)
              (first
                | (go_at_call 49; refine (HEX.out _).mono ?_; rintro e6 w6 ⟨rfl, hb6⟩
                   have HB6 : Hid (Below wr.heap.size wr w6) := Lib.hid (HB5.out.trans (hb6.mono HB5.out.size))
                   have HC6 : Hid (w6.cell? ⟨x, 0, none⟩ = some (.int .i64 (gi e 0)) ∧ w6.cell? ⟨x, 1, none⟩ = some (.int .i64 (gi e 1)) ∧ w6.cell? ⟨x, 2, none⟩ = some (.int .i64 (gi e 2)) ∧ w6.cell? ⟨x, 3, none⟩ = some (.int .i64 (gi e 3)) ∧ w6.cell? ⟨x, 4, none⟩ = some (.int .i64 (gi e 4)) ∧ w6.cell? ⟨x, 5, none⟩ = some (.int .i64 (gi e 5))) := Lib.hid (c6_below HC3.out HXL.out HB6.out)
                   clear hb6)
                | (go_at_call 48; refine (HOV.out _).mono ?_; rintro e5 w5 ⟨rfl, hb5⟩
                   have HB5 : Hid (Below wr.heap.size wr w5) := Lib.hid ((Below.refl _ wr).drew.trans hb5)
                   have HC5 : Hid (w5.cell? ⟨x, 0, none⟩ = some (.int .i64 (gi e 0)) ∧ w5.cell? ⟨x, 1, none⟩ = some (.int .i64 (gi e 1)) ∧ w5.cell? ⟨x, 2, none⟩ = some (.int .i64 (gi e 2)) ∧ w5.cell? ⟨x, 3, none⟩ = some (.int .i64 (gi e 3)) ∧ w5.cell? ⟨x, 4, none⟩ = some (.int .i64 (gi e 4)) ∧ w5.cell? ⟨x, 5, none⟩ = some (.int .i64 (gi e 5))) := Lib.hid (c6_below HC3.out HXL.out HB5.out)
                   clear hb5))
            all_goals
              go_wp2
              go_roundw
              case rel =>
                exact ⟨q + 1, a + c, by omega, by go_num, by go_num, HNA.out, HRG3.out.kept (grown_of_below HB6.out none) (by simp) (by simp), HC6.out, HBEL3.out.trans (HB6.out.mono (by have := HBEL3.out.size; have := HX2.out; have := HXL.out; omega)), by have := HB6.out.size; have := HXL.out; omega⟩
              case measure => simp [intOf]; omega
          · rw [if_neg hEX, Nat.zero_mul, Nat.add_zero] at hsm
            have heql : ∀ w' : World, (binOp .eql 47 (.agg #[.int .i64 (gi E 0), .int .i64 (gi E 1), .int .i64 (gi E 2), .int .i64 (gi E 3), .int .i64 (gi E 4), .int .i64 (gi E 5)]) (.agg #[.int .i64 (gi X 0), .int .i64 (gi X 1), .int .i64 (gi X 2), .int .i64 (gi X 3), .int .i64 (gi X 4), .int .i64 (gi X 5)])).run Try.prog w' = .ok (.bool false) w' := fun w' => by rw [eqlEnds w' E X hEl hXl, decide_eq_false hEX]
            have HNA : Hid (a = s + mtK (q + 1) e * c) := Lib.hid (by rw [hsucc, if_neg hEX, HA.out, Nat.add_zero])
            clear hE hX hEX hsucc hsm
            go_wp2
            go_region_held3 (fun w' => w'.cell? ⟨x, 0, none⟩ = some (.int .i64 (gi e 0)) ∧ w'.cell? ⟨x, 1, none⟩ = some (.int .i64 (gi e 1)) ∧ w'.cell? ⟨x, 2, none⟩ = some (.int .i64 (gi e 2)) ∧ w'.cell? ⟨x, 3, none⟩ = some (.int .i64 (gi e 3)) ∧ w'.cell? ⟨x, 4, none⟩ = some (.int .i64 (gi e 4)) ∧ w'.cell? ⟨x, 5, none⟩ = some (.int .i64 (gi e 5)))
              (first | exact HC3.out | exact HC5.out | exact HC6.out)
              (first
                | (go_at_call 49; refine (HEX.out _).mono ?_; rintro e6 w6 ⟨rfl, hb6⟩
                   have HB6 : Hid (Below wr.heap.size wr w6) := Lib.hid (HB5.out.trans (hb6.mono HB5.out.size))
                   have HC6 : Hid (w6.cell? ⟨x, 0, none⟩ = some (.int .i64 (gi e 0)) ∧ w6.cell? ⟨x, 1, none⟩ = some (.int .i64 (gi e 1)) ∧ w6.cell? ⟨x, 2, none⟩ = some (.int .i64 (gi e 2)) ∧ w6.cell? ⟨x, 3, none⟩ = some (.int .i64 (gi e 3)) ∧ w6.cell? ⟨x, 4, none⟩ = some (.int .i64 (gi e 4)) ∧ w6.cell? ⟨x, 5, none⟩ = some (.int .i64 (gi e 5))) := Lib.hid (c6_below HC3.out HXL.out HB6.out)
                   clear hb6)
                | (go_at_call 48; refine (HOV.out _).mono ?_; rintro e5 w5 ⟨rfl, hb5⟩
                   have HB5 : Hid (Below wr.heap.size wr w5) := Lib.hid ((Below.refl _ wr).drew.trans hb5)
                   have HC5 : Hid (w5.cell? ⟨x, 0, none⟩ = some (.int .i64 (gi e 0)) ∧ w5.cell? ⟨x, 1, none⟩ = some (.int .i64 (gi e 1)) ∧ w5.cell? ⟨x, 2, none⟩ = some (.int .i64 (gi e 2)) ∧ w5.cell? ⟨x, 3, none⟩ = some (.int .i64 (gi e 3)) ∧ w5.cell? ⟨x, 4, none⟩ = some (.int .i64 (gi e 4)) ∧ w5.cell? ⟨x, 5, none⟩ = some (.int .i64 (gi e 5))) := Lib.hid (c6_below HC3.out HXL.out HB5.out)
                   clear hb5))
            all_goals
              go_wp2
              go_roundw
              case rel =>
                exact ⟨q + 1, a, by omega, by go_num, rfl, HNA.out, HRG3.out.kept (grown_of_below HB6.out none) (by simp) (by simp), HC6.out, HBEL3.out.trans (HB6.out.mono (by have := HBEL3.out.size; have := HX2.out; have := HXL.out; omega)), by have := HB6.out.size; have := HXL.out; omega⟩
              case measure => simp [intOf]; omega
        · obtain rfl : q = n - 1 := by omega
          go_wp2
          go_roundw
          case rel => exact ⟨_, cnt1, a, rfl, HRG3.out, HA.out ▸ HNX.out, HBEL3.out, by have := HX2.out; have := HXL.out; omega⟩
          case measure => rw [HRG3.out.left_eq, HRG.out.left_eq]; exact HLT.out
end Go.Proofs.Ytpnabofgpeffkaa
