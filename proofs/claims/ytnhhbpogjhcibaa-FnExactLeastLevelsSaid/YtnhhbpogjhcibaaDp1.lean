/- The least depths of all orders, of the program. -/
import Derived.Test.YtnhhbpogjhcibaaQs1
import Derived.Test.YtnhhbpogjhcibaaMs1
import Derived.Test.YtnhhbpogjhcibaaLv2
import Derived.Test.YtnhhbpogjhcibaaLd3
import Derived.Handy
import Derived.Carry
import Derived.Deep.LoopGhost
import Derived.Deep.RegionHeld3
import Derived.Deep.DeepCutAuto
import Derived.BigRegion
namespace Go.Proofs.Ytnhhbpogjhcibaa
open Go Go.RowKit Go.Maps

/-- the seats of some orders, one after the other -/
def flS (Q : List (List Int)) : List Value := Q.flatMap fun q => I (seats q)
theorem flS_len (Q : List (List Int)) : (flS Q).length = Q.length * 8 := by
  induction Q with
  | nil => rfl
  | cons q Q ih =>
    show ((I (seats q)) ++ flS Q).length = _
    rw [List.length_append, ih, I_length, seats_length, List.length_cons]; omega
theorem flS_snoc (Q : List (List Int)) (x : List Int) : flS (Q ++ [x]) = flS Q ++ I (seats x) := by simp [flS]
theorem flS_drop8 (q : List Int) (Q : List (List Int)) : (flS (q :: Q)).drop 8 = flS Q := by
  show (I (seats q) ++ flS Q).drop 8 = _
  have : (I (seats q)).length = 8 := by rw [I_length, seats_length]
  rw [List.drop_append, this, List.drop_of_length_le (by omega)]
  simp
theorem drop_gz {Q : List (List Int)} {k : Nat} (h : k < Q.length) : Q.drop k = gz Q k :: Q.drop (k + 1) := by
  rw [List.drop_eq_getElem_cons h]
  simp [gz, List.getD, h]
theorem flS_at {Q : List (List Int)} {k : Nat} (h : k < Q.length) {j : Nat} (hj : j < 8) : (flS (Q.drop k))[j]? = some (.int .i64 (gi (seats (gz Q k)) j)) := by
  rw [drop_gz h]
  show (I (seats (gz Q k)) ++ flS (Q.drop (k + 1)))[j]? = _
  rw [List.getElem?_append_left (by rw [I_length, seats_length]; exact hj)]
  exact I_at (by rw [seats_length]; exact hj)
theorem LV_len' (n : Nat) (hn : n ≤ 6) : (LV n).length ≤ 262144 := Nat.le_trans (lvK_len n (by omega) n 0) (Nat.le_trans (Nat.pow_le_pow_right (by omega) hn) (by decide))
theorem heap_alloc_old' (w : World) (o : Obj) (k : Nat) (h : k < w.heap.size) : (w.alloc o).heap[k]? = w.heap[k]? := (World.grownBy_alloc w o none).block k h (by simp)
theorem LV7 {n : Nat} (h6 : n ≤ 6) {l : List Int} (hl : l ∈ LV n) : ∀ x ∈ l, 0 ≤ x ∧ x.toNat + 1 < 7 := fun x hx => by have := LV_mem hl x hx; omega

theorem MD.to {n : Nat} {Q : List (List Int)} {d : List Int → Nat} {D : DataW Unit} (h : MD n Q d D) (hQ : ∀ q ∈ Q, OKp n q) (hf : ∀ p, OKp n p → p ∈ Q ∧ d p = dep n p) (h2 : 2 ≤ n) (h6 : n ≤ 6) : MD n (ordsK n n) (dep n) D := by
  have hm : ∀ q, q ∈ ordsK n n ↔ OKp n q := (ordsK_all (by omega) (by omega)).mem
  refine ⟨h.tidy, fun p hp => ?_, fun q hq => h.has q (hf q ((hm q).1 hq)).1, fun q hq z => ?_⟩
  · obtain ⟨q, hq, e⟩ := h.all p hp
    exact ⟨q, (hm q).2 (hQ q hq), e⟩
  · have := hf q ((hm q).1 hq)
    rw [h.val q this.1, this.2]
def DepthsPost (n : Nat) (w : World) (e : Ending) (w' : World) : Prop := ∃ b nb D, e = .returned (.map (some b)) ∧ OS w' b nb D ∧ MD n (ordsK n n) (dep n) D ∧ w.heap.size ≤ b ∧ Below w.heap.size w w'
set_option maxRecDepth 100000 in
set_option maxHeartbeats 4000000 in
theorem depthsOf_any (n : Nat) (w : World) (h2 : 2 ≤ n) (h6 : n ≤ 6) :
    Calls Try.prog 59 #[.int .i64 (n : Int)] w (DepthsPost n w) := by
  have HLV := Lib.hid (fun w2 => levelsFrom_any n (by omega) n 0 (by omega) (by omega) (by omega) w2)
  have hLl := LV_len' n h6
  have hmm := @run_makeMap Try.prog
  obtain ⟨hs, hhs⟩ : ∃ hs, hs = seats (upto n) := ⟨_, rfl⟩
  have huo : OKp n (upto n) := upto_ok (by omega) (by omega)
  have HI8 : Hid (In8 hs) := Lib.hid (by rw [hhs]; exact seatsIn (by omega) huo)
  have HSE : Hid (∀ w2, Calls Try.prog 60 #[.slice none 0 0] w2 (fun e w' => e = .returned (.agg #[.int .i64 (gi hs 0), .int .i64 (gi hs 1), .int .i64 (gi hs 2), .int .i64 (gi hs 3), .int .i64 (gi hs 4), .int .i64 (gi hs 5), .int .i64 (gi hs 6), .int .i64 (gi hs 7)]) ∧ Below w2.heap.size w2 w')) := Lib.hid (fun w2 => by
    have := seatsOf_any none 0 0 [] w2 ⟨rfl, fun h => absurd h (by omega)⟩ (by omega)
    rw [hhs, arr8 (seats_length _), seats_upto (by omega)]
    exact this)
  have HHS := Lib.hid hhs
  clear hhs huo
  go_enter Try.func59, Try.ntmps59
  go_wp2_with fail
  refine (HLV.out _).mono ?_
  rintro e w1 ⟨AL, cL, ML, SL, rfl, oL, hb1⟩
  have HLB := Lib.hid oL.blkLtC
  have hlvn : LV n = lvK n n 0 := rfl
  rw [← hlvn] at oL ⊢
  have HL1 := Lib.hid oL.top
  have HB1 := Lib.hid hb1
  clear oL hb1 hlvn
  go_wp2_with fail
  refine (HSE.out _).mono ?_
  rintro e w2 ⟨rfl, hb2⟩
  have HL2 := Lib.hid (HL1.out.below hb2)
  have HB2 := Lib.hid (HB1.out.trans (hb2.mono HB1.out.size))
  have HZ2 := Lib.hid hb2.size
  clear hb2
  obtain ⟨K1, hK1⟩ : ∃ K, K = w1.heap.size := ⟨_, rfl⟩
  rw [← hK1] at HL2 HLB HZ2
  clear hK1 HL1 HB1
  obtain ⟨w3, hw3⟩ : ∃ v : World, v = (w2.alloc (.cells #[.int .i64 (gi hs 0), .int .i64 (gi hs 1), .int .i64 (gi hs 2), .int .i64 (gi hs 3), .int .i64 (gi hs 4), .int .i64 (gi hs 5), .int .i64 (gi hs 6), .int .i64 (gi hs 7)] 62)).alloc (.map #[] 0) := ⟨_, rfl⟩
  have HM3 : Hid (OS w3 (w2.heap.size + 1) 0 (.map [])) := Lib.hid (by
    rw [hw3]
    have := World.ownsMap_made (w2.alloc (.cells #[.int .i64 (gi hs 0), .int .i64 (gi hs 1), .int .i64 (gi hs 2), .int .i64 (gi hs 3), .int .i64 (gi hs 4), .int .i64 (gi hs 5), .int .i64 (gi hs 6), .int .i64 (gi hs 7)] 62)) Try.prog 62 (plainElem (H := Unit) Try.prog 3)
    rwa [World.size_alloc] at this)
  have HC3 : Hid (w3.heap[w2.heap.size]? = some (.cells (I hs).toArray 62 (0, 0))) := Lib.hid (by
    rw [hw3, arr8 HI8.out.1]
    exact (heap_alloc_old' _ _ _ (by simp)).trans (heap_alloc_new w2 _))
  have HL3 : Hid (OII w3 w.heap.size K1 AL (LV n).length cL (LV n) SL) := Lib.hid (by rw [hw3]; exact (HL2.out.alloc _).alloc _)
  have HB3 : Hid (Below w.heap.size w w3) := Lib.hid (by rw [hw3]; exact (HB2.out.alloc HB2.out.size _).alloc (by have := HB2.out.size; simp; omega) _)
  have HW3 := Lib.hid hw3
  have HS3 : Hid (w3.heap.size = w2.heap.size + 2) := Lib.hid (by rw [hw3]; simp)
  clear hw3
  go_wp2_with (first
    | (rw [← HW3.out]; refine wpList_insert_own _ rfl _ _ _ 59 rfl 62 3 keyS Try.underlying59 _ (w2.heap.size + 1) 0 _ rfl HM3.out (by decide) _ _ _ rfl rfl (key_ofS HI8.out) _ [] (plainElem_int Try.underlying3 (by decide)) ?_; intro w4 ho4 hg4; have HO4 := Lib.hid ho4; have HG4 := Lib.hid hg4; have HC4 := Lib.hid ((hg4.block w2.heap.size (by have := HS3.out; omega) (by simp)).trans HC3.out); obtain ⟨e0, e1, e2, e3, e4, e5, e6, e7⟩ := cells8 HI8.out.1 HC4.out; clear ho4 hg4))
  obtain ⟨bm, hbm⟩ : ∃ b, b = w2.heap.size + 1 := ⟨_, rfl⟩
  obtain ⟨w5, hw5⟩ : ∃ v : World, v = w4.alloc (.cells #[.int .i64 (gi hs 0), .int .i64 (gi hs 1), .int .i64 (gi hs 2), .int .i64 (gi hs 3), .int .i64 (gi hs 4), .int .i64 (gi hs 5), .int .i64 (gi hs 6), .int .i64 (gi hs 7)] 62) := ⟨_, rfl⟩
  obtain ⟨bq0, hbq⟩ : ∃ b, b = w4.heap.size := ⟨_, rfl⟩
  have hz4 := HG4.out.size
  have hz3 := HS3.out
  have hz2 := HZ2.out
  have HKM : Hid (K1 ≤ bm) := Lib.hid (by omega)
  have HWM : Hid (w.heap.size ≤ bm) := Lib.hid (by have := HB2.out.size; omega)
  have hbq1 : bm + 1 ≤ bq0 := by omega
  rw [← hbm] at HO4
  have HM5 : Hid (OS w5 bm 1 ((DataW.map []).put (eS (seats (upto n))) (nd 0))) := Lib.hid (by rw [hw5, ← HHS.out]; exact HO4.out.alloc _)
  have HQ5 : Hid (QA w5 (bm + 1) (some ⟨bq0, 0, none⟩) 1 1 (flS [upto n])) := Lib.hid (by
    refine ⟨by rw [flS_len]; rfl, fun _ => ⟨bq0, 0, (I hs).toArray, rfl, hbq1, ?_, Nat.le_refl _, by simp [I, HI8.out.1], fun j v hv => ?_⟩⟩
    · rw [hw5, arr8 HI8.out.1, hbq]; exact heap_alloc_new w4 _
    · rw [Nat.zero_add, List.getElem?_toArray, HHS.out]
      simpa [flS] using hv)
  have HL5 : Hid (OII w5 w.heap.size K1 AL (LV n).length cL (LV n) SL) := Lib.hid (by
    rw [hw5]
    exact (HL3.out.far (Nat.le_refl _) HLB.out (A' := some ⟨bm, 0, none⟩) (by rw [hbm]; exact HG4.out) (fun b hb => .inr (by have : bm = b := Option.some.inj hb; have := HKM.out; omega))).alloc _)
  have HB5 : Hid (Below w.heap.size w w5) := Lib.hid (by
    rw [hw5]
    have hb4 : Below w.heap.size w w4 := HB3.out.grown HG4.out HB3.out.size (fun b hb => by have : w2.heap.size + 1 = b := Option.some.inj hb; have := HWM.out; omega)
    exact hb4.alloc hb4.size _)
  have S0B := Lib.hid (Bfs.start n (bot n) (fun _ => 0) rfl)
  have M0 := Lib.hid (MD.start n)
  rw [← hbm, ← hbq, ← hw5]
  clear hbm hbq hw5 hz4 hz3 hz2 e0 e1 e2 e3 e4 e5 e6 e7
  go_loopg [6] 46657 (fun gk s6 wr => ∃ (k r : Nat) (Q : List (List Int)) (d : List Int → Nat) (D : DataW Unit) (Aq : Option Addr) (cq : Nat), gk + k = 46657 ∧ r + k = Q.length ∧ s6 = .slice Aq r cq ∧ Bfs n (bot n) Q d k 0 ∧ MD n Q d D ∧ OS wr bm Q.length D ∧ QA wr (bm + 1) Aq r cq (flS (Q.drop k)) ∧ OII wr w.heap.size K1 AL (LV n).length cL (LV n) SL ∧ Below w.heap.size w wr)
  case atStart => exact ⟨0, 1, [upto n], fun _ => 0, _, _, 1, rfl, rfl, rfl, S0B.out, M0.out, HM5.out, HQ5.out, HL5.out, HB5.out⟩
  case round =>
    obtain ⟨k, r, Q, d, D, Aq, cq, hgk, hrk, rfl, hbf, hmd, hos, hqa, hL, hb⟩ := hrel
    have BF := Lib.hid hbf
    have HMD := Lib.hid hmd
    have HOS := Lib.hid hos
    have HQA := Lib.hid hqa
    have HLr := Lib.hid hL
    have HBr := Lib.hid hb
    have HGK := Lib.hid hgk
    have HRK := Lib.hid hrk
    have hQl := hbf.small h2 h6
    clear hbf hmd hos hqa hL hb hgk
    by_cases hr0 : 0 < r
    · have r1 : (0 : Int) < (r : Int) := by omega
      have hkq : k < Q.length := by omega
      clear hrk
      obtain ⟨wo, hwo⟩ : ∃ wo, wo = wr := ⟨_, rfl⟩
      subst hwo
      go_wp2
      go_loopg [6, 27] ((LV n).length) (fun gj s6 s27 wi => ∃ (j r : Nat) (Q : List (List Int)) (d : List Int → Nat) (D : DataW Unit) (Aq : Option Addr) (cq : Nat), gj + j = (LV n).length ∧ s27 = .int .i64 (j : Int) ∧ 0 < r ∧ r + k = Q.length ∧ s6 = .slice Aq r cq ∧ Bfs n (bot n) Q d k j ∧ MD n Q d D ∧ OS wi bm Q.length D ∧ QA wi (bm + 1) Aq r cq (flS (Q.drop k)) ∧ OII wi w.heap.size K1 AL (LV n).length cL (LV n) SL ∧ Below w.heap.size w wi)
      case atStart => exact ⟨0, r, Q, d, D, Aq, cq, rfl, by go_num, hr0, HRK.out, rfl, BF.out, HMD.out, HOS.out, HQA.out, HLr.out, HBr.out⟩
      case round =>
        clear hQl hkq r1 hr0
        obtain ⟨j, r, Q, d, D, Aq, cq, hgj, rfl, hr0, hrk, rfl, hbf, hmd, hos, hqa, hL, hb⟩ := hrel
        have BF := Lib.hid hbf
        have HMD := Lib.hid hmd
        have HOS := Lib.hid hos
        have HQA := Lib.hid hqa
        have HLr := Lib.hid hL
        have HBr := Lib.hid hb
        have HGJ := Lib.hid hgj
        have HRK := Lib.hid hrk
        have hQl := hbf.small h2 h6
        have hkq : k < Q.length := by omega
        clear hgj hrk
        by_cases hjl : j < (LV n).length
        · -- ROUND
          obtain ⟨gl, la, lm, ld, rfl, hgl, _, _, hcl, hol⟩ := hL.row hjl
          have hl : gz (LV n) j ∈ LV n := mem_gz.2 ⟨j, hjl, rfl⟩
          obtain ⟨g, off, rfl, hgB, hgw, hrc, hcells⟩ := hqa.cell hr0
          have hqm : gz Q k ∈ Q := mem_gz.2 ⟨k, hkq, rfl⟩
          have hqo : OKp n (gz Q k) := hbf.ok h2 h6 _ hqm
          have hcell8 : ∀ i, i < 8 → wr.cell? ⟨g, off + i, none⟩ = some (.int .i64 (gi (seats (gz Q k)) i)) := fun i hi => hcells i _ (flS_at hkq hi)
          obtain ⟨q, hqd⟩ : ∃ q, q = gz Q k := ⟨_, rfl⟩
          obtain ⟨l, hld⟩ : ∃ l, l = gz (LV n) j := ⟨_, rfl⟩
          have HQD := Lib.hid hqd
          have HLD := Lib.hid hld
          rw [← hqd] at hqm hqo hcell8
          rw [← hld] at hl hol
          have HQO := Lib.hid hqo
          have HQM := Lib.hid hqm
          have HLM := Lib.hid hl
          have hlm : lm ≤ 1048576 := by rw [← hol.1]; have := lvK_row n n 0 l hl; omega
          have HX : Hid (thn (seats q) (sl8 l) = seats (bot n q l)) := Lib.hid (thn_bot (by omega) hqo (fun x hx => (LV_mem hl x hx).2))
          have HXO : Hid (OKp n (bot n q l)) := Lib.hid ((((BF.out.sound q (by rw [hqd]; exact mem_gz.2 ⟨k, hkq, rfl⟩)).bot hl)).ok (by omega) (by omega))
          obtain ⟨x, hx⟩ : ∃ x, x = bot n q l := ⟨_, rfl⟩
          have HXD := Lib.hid hx
          rw [← hx] at HX HXO
          obtain ⟨ss, hss⟩ : ∃ ss, ss = seats q := ⟨_, rfl⟩
          obtain ⟨ls, hls⟩ : ∃ ls, ls = sl8 l := ⟨_, rfl⟩
          obtain ⟨xs, hxs⟩ : ∃ xs, xs = seats x := ⟨_, rfl⟩
          have HSS := Lib.hid hss
          have HXS := Lib.hid hxs
          have HLI := Lib.hid hol.ri
          have hi8 : In8 ss := by rw [hss]; exact seatsIn (by omega) hqo
          have hx8 : In8 xs := by rw [hxs]; exact seatsIn (by omega) HXO.out
          have hll : ls.length = 8 := by rw [hls]; exact sl8_length l
          have HI8x := Lib.hid hx8
          have HI8s := Lib.hid hi8
          have HLS : Hid (∀ w', RI w' la lm l → Calls Try.prog 64 #[.slice la lm ld] w' (fun e w'' => e = .returned (.agg #[.int .i64 (gi ls 0), .int .i64 (gi ls 1), .int .i64 (gi ls 2), .int .i64 (gi ls 3), .int .i64 (gi ls 4), .int .i64 (gi ls 5), .int .i64 (gi ls 6), .int .i64 (gi ls 7)]) ∧ Below w'.heap.size w' w'')) := Lib.hid (fun w' hr => by
            have := levelSeats_any la lm ld l w' hr hlm (LV7 h6 hl)
            rw [arr8 hll, hls]
            exact this)
          have HTH : Hid (∀ w', Calls Try.prog 65 #[.agg #[.int .i64 (gi ss 0), .int .i64 (gi ss 1), .int .i64 (gi ss 2), .int .i64 (gi ss 3), .int .i64 (gi ss 4), .int .i64 (gi ss 5), .int .i64 (gi ss 6), .int .i64 (gi ss 7)], .agg #[.int .i64 (gi ls 0), .int .i64 (gi ls 1), .int .i64 (gi ls 2), .int .i64 (gi ls 3), .int .i64 (gi ls 4), .int .i64 (gi ls 5), .int .i64 (gi ls 6), .int .i64 (gi ls 7)]] w' (fun e w'' => e = .returned (.agg (I xs).toArray) ∧ Below w'.heap.size w' w'')) := Lib.hid (fun w' => by
            have := then_any ss ls w' hi8 hll
            rw [arr8 hi8.1, arr8 hll]
            rw [hss, hls, HX.out, ← hxs] at this
            rw [hss, hls]
            exact this)
          have HLR : Hid (∀ w', Below wr.heap.size wr w' → RI w' la lm l) := Lib.hid (fun w' hb' => HLI.out.below hb' (Nat.le_refl _))
          have HQC : Hid (∀ w', Below wr.heap.size wr w' → w'.cell? ⟨g, off, none⟩ = some (.int .i64 (gi ss 0)) ∧ w'.cell? ⟨g, off + 1, none⟩ = some (.int .i64 (gi ss 1)) ∧ w'.cell? ⟨g, off + 2, none⟩ = some (.int .i64 (gi ss 2)) ∧ w'.cell? ⟨g, off + 3, none⟩ = some (.int .i64 (gi ss 3)) ∧ w'.cell? ⟨g, off + 4, none⟩ = some (.int .i64 (gi ss 4)) ∧ w'.cell? ⟨g, off + 5, none⟩ = some (.int .i64 (gi ss 5)) ∧ w'.cell? ⟨g, off + 6, none⟩ = some (.int .i64 (gi ss 6)) ∧ w'.cell? ⟨g, off + 7, none⟩ = some (.int .i64 (gi ss 7))) := Lib.hid (fun w' hb' => by
            have hk : ∀ i, i < 8 → w'.cell? ⟨g, off + i, none⟩ = some (.int .i64 (gi ss i)) := fun i hi => (hb'.cell (p := ⟨g, off + i, none⟩) hgw).trans (by rw [hss]; exact hcell8 i hi)
            exact ⟨hk 0 (by omega), hk 1 (by omega), hk 2 (by omega), hk 3 (by omega), hk 4 (by omega), hk 5 (by omega), hk 6 (by omega), hk 7 (by omega)⟩)
          have hstN : ∀ w' : World, (storeCells ⟨w'.heap.size, 0, none⟩ (I xs)).run Try.prog (w'.alloc (.cells #[.int .i64 0, .int .i64 0, .int .i64 0, .int .i64 0, .int .i64 0, .int .i64 0, .int .i64 0, .int .i64 0] 62)) = .ok () (w'.alloc (.cells (I xs).toArray 62)) := fun w' => storeNew8L w' 62 (.int .i64 0) xs hx8.1
          have hstO : ∀ (w' : World) (b : Nat), w'.heap[b]? = some (.cells #[.int .i64 0, .int .i64 0, .int .i64 0, .int .i64 0, .int .i64 0, .int .i64 0, .int .i64 0, .int .i64 0] 62 (0, 0)) → (storeCells ⟨b, 0, none⟩ (I xs)).run Try.prog w' = .ok () (w'.setRow b (I xs).toArray) := fun w' b hb' => by
            have := run_storeCells_from (P := Try.prog) b 62 (I xs) 0 #[.int .i64 0, .int .i64 0, .int .i64 0, .int .i64 0, .int .i64 0, .int .i64 0, .int .i64 0, .int .i64 0] w' hb' (by simp [I, hx8.1]) (fun v hv => I_one _ v hv)
            rwa [List.take_zero, List.nil_append] at this
          have hix : (I xs).length = 8 := by rw [I_length]; exact hx8.1
          have j0 : (0 : Int) ≤ (j : Int) := by omega
          have j1 : (j : Int) < ((LV n).length : Int) := by omega
          have r1 : (0 : Int) < (r : Int) := by omega
          clear hbf hmd hos hqa hL hb hol hcells hcell8 hqo hqm hqd hld hx hss hls hxs hl hi8 hx8 hll
          go_upto_region 10 with fail
          go_cut [9] (fun s9 wx => ∃ b9 : Nat, s9 = .pointer (some ⟨b9, 0, none⟩) ∧ wx.heap[b9]? = some (.cells (I xs).toArray 62 (0, 0)) ∧ wr.heap.size ≤ b9 ∧ Below wr.heap.size wr wx)
          case first =>
            go_region_held3 (fun w' => w'.cell? ⟨g, off, none⟩ = some (.int .i64 (gi ss 0)) ∧ w'.cell? ⟨g, off + 1, none⟩ = some (.int .i64 (gi ss 1)) ∧ w'.cell? ⟨g, off + 2, none⟩ = some (.int .i64 (gi ss 2)) ∧ w'.cell? ⟨g, off + 3, none⟩ = some (.int .i64 (gi ss 3)) ∧ w'.cell? ⟨g, off + 4, none⟩ = some (.int .i64 (gi ss 4)) ∧ w'.cell? ⟨g, off + 5, none⟩ = some (.int .i64 (gi ss 5)) ∧ w'.cell? ⟨g, off + 6, none⟩ = some (.int .i64 (gi ss 6)) ∧ w'.cell? ⟨g, off + 7, none⟩ = some (.int .i64 (gi ss 7)))
              (exact HQC.out _ (by with_reducible first | exact hidOut (b5) | exact hidOut (b6) | exact hidOut ((belRefl (w := wr))) | exact hidOut (belAlloc (b5) _) | exact hidOut (belDrew (b5)) | exact hidOut (belAlloc (b6) _) | exact hidOut (belDrew (b6)) | exact hidOut (belAlloc ((belRefl (w := wr))) _) | exact hidOut (belDrew ((belRefl (w := wr)))) | exact hidOut (belAlloc (belAlloc (b5) _) _) | exact hidOut (belDrew (belAlloc (b5) _)) | exact hidOut (belAlloc (belDrew (b5)) _) | exact hidOut (belDrew (belDrew (b5))) | exact hidOut (belAlloc (belAlloc (b6) _) _) | exact hidOut (belDrew (belAlloc (b6) _)) | exact hidOut (belAlloc (belDrew (b6)) _) | exact hidOut (belDrew (belDrew (b6))) | exact hidOut (belAlloc (belAlloc ((belRefl (w := wr))) _) _) | exact hidOut (belDrew (belAlloc ((belRefl (w := wr))) _)) | exact hidOut (belAlloc (belDrew ((belRefl (w := wr)))) _) | exact hidOut (belDrew (belDrew ((belRefl (w := wr))))) | exact hidOut (belAlloc (belAlloc (belAlloc (b5) _) _) _) | exact hidOut (belDrew (belAlloc (belAlloc (b5) _) _)) | exact hidOut (belAlloc (belDrew (belAlloc (b5) _)) _) | exact hidOut (belDrew (belDrew (belAlloc (b5) _))) | exact hidOut (belAlloc (belAlloc (belDrew (b5)) _) _) | exact hidOut (belDrew (belAlloc (belDrew (b5)) _)) | exact hidOut (belAlloc (belDrew (belDrew (b5))) _) | exact hidOut (belDrew (belDrew (belDrew (b5)))) | exact hidOut (belAlloc (belAlloc (belAlloc (b6) _) _) _) | exact hidOut (belDrew (belAlloc (belAlloc (b6) _) _)) | exact hidOut (belAlloc (belDrew (belAlloc (b6) _)) _) | exact hidOut (belDrew (belDrew (belAlloc (b6) _))) | exact hidOut (belAlloc (belAlloc (belDrew (b6)) _) _) | exact hidOut (belDrew (belAlloc (belDrew (b6)) _)) | exact hidOut (belAlloc (belDrew (belDrew (b6))) _) | exact hidOut (belDrew (belDrew (belDrew (b6)))) | exact hidOut (belAlloc (belAlloc (belAlloc ((belRefl (w := wr))) _) _) _) | exact hidOut (belDrew (belAlloc (belAlloc ((belRefl (w := wr))) _) _)) | exact hidOut (belAlloc (belDrew (belAlloc ((belRefl (w := wr))) _)) _) | exact hidOut (belDrew (belDrew (belAlloc ((belRefl (w := wr))) _))) | exact hidOut (belAlloc (belAlloc (belDrew ((belRefl (w := wr)))) _) _) | exact hidOut (belDrew (belAlloc (belDrew ((belRefl (w := wr)))) _)) | exact hidOut (belAlloc (belDrew (belDrew ((belRefl (w := wr))))) _) | exact hidOut (belDrew (belDrew (belDrew ((belRefl (w := wr)))))) | exact below_setRow (hidOut b6) z5 _ | exact below_setRow (hidOut b6) (Nat.le_refl _) _ | exact (below_setRow (hidOut b6) z5 _).drew | exact (below_setRow (hidOut b6) (Nat.le_refl _) _).drew))
              (first
                | (go_at_call 64; refine (HLS.out _ (HLR.out _ (by with_reducible first | exact hidOut ((belRefl (w := wr))) | exact hidOut (belAlloc ((belRefl (w := wr))) _) | exact hidOut (belDrew ((belRefl (w := wr)))) | exact hidOut (belAlloc (belAlloc ((belRefl (w := wr))) _) _) | exact hidOut (belDrew (belAlloc ((belRefl (w := wr))) _)) | exact hidOut (belAlloc (belDrew ((belRefl (w := wr)))) _) | exact hidOut (belDrew (belDrew ((belRefl (w := wr)))))))).mono ?_; rintro e w5 ⟨rfl, hb5⟩; have b5 : Hid (Below wr.heap.size wr w5) := belStep (by with_reducible first | exact ((belRefl (w := wr))) | exact (belAlloc ((belRefl (w := wr))) _) | exact (belDrew ((belRefl (w := wr)))) | exact (belAlloc (belAlloc ((belRefl (w := wr))) _) _) | exact (belDrew (belAlloc ((belRefl (w := wr))) _)) | exact (belAlloc (belDrew ((belRefl (w := wr)))) _) | exact (belDrew (belDrew ((belRefl (w := wr)))))) hb5; have z5 : wr.heap.size ≤ w5.heap.size := b5.out.size; (try (have c5 : w5.heap[wr.heap.size]? = some (.cells #[.int .i64 0, .int .i64 0, .int .i64 0, .int .i64 0, .int .i64 0, .int .i64 0, .int .i64 0, .int .i64 0] 62 (0, 0)) := (by first | exact (hb5.block _ (by simp)).trans (heap_alloc_new wr _) | exact (hb5.block _ (by simp)).trans (heap_alloc_new wr.drew _)))); clear hb5)
                | (go_at_call 65; refine (HTH.out _).mono ?_; rintro e w6 ⟨rfl, hb6⟩; have b6 : Hid (Below wr.heap.size wr w6) := belStep (by with_reducible first | exact (b5) | exact (belAlloc (b5) _) | exact (belDrew (b5)) | exact (belAlloc (belAlloc (b5) _) _) | exact (belDrew (belAlloc (b5) _)) | exact (belAlloc (belDrew (b5)) _) | exact (belDrew (belDrew (b5)))) hb6; have z6 : wr.heap.size ≤ w6.heap.size := b6.out.size; (try (have c6 : w6.heap[wr.heap.size]? = some (.cells #[.int .i64 0, .int .i64 0, .int .i64 0, .int .i64 0, .int .i64 0, .int .i64 0, .int .i64 0, .int .i64 0] 62 (0, 0)) := (hb6.block _ (Array.getElem?_eq_some_iff.1 c5).1).trans c5)); (try (have c7 : w6.heap[w5.heap.size]? = some (.cells #[.int .i64 0, .int .i64 0, .int .i64 0, .int .i64 0, .int .i64 0, .int .i64 0, .int .i64 0, .int .i64 0] 62 (0, 0)) := (by first | exact (hb6.block _ (by simp)).trans (heap_alloc_new w5 _) | exact (hb6.block _ (by simp)).trans (heap_alloc_new w5.drew _)))); clear hb6))
            all_goals
              go_wp2
              go_meet
              case rel =>
                (first
                  | exact ⟨_, rfl, heap_alloc_new w6 _, z6, hidOut (belAlloc b6 _)⟩
                  | exact ⟨_, rfl, setRow_heap w6 _ _ _ _ _ c7, z5, below_setRow (hidOut b6) z5 _⟩
                  | exact ⟨_, rfl, setRow_heap w6 _ _ _ _ _ c6, Nat.le_refl _, below_setRow (hidOut b6) (Nat.le_refl _) _⟩)
          case rest =>
            obtain ⟨b9, rfl, h9, hz9, hb9⟩ := hcut
            have HB9 := Lib.hid hb9
            have HH9 := Lib.hid h9
            have HO9 : Hid (OS wc bm Q.length D) := Lib.hid (HOS.out.kept (grown_of_below hb9 none) (by simp))
            have HQ9 := Lib.hid (HQA.out.below hb9)
            have HL9 := Lib.hid (HLr.out.below hb9)
            have HB9w := Lib.hid (HBr.out.trans (hb9.mono HBr.out.size))
            have HC9 := Lib.hid (HQC.out _ hb9)
            have hgw9 : g < wc.heap.size := Nat.lt_of_lt_of_le hgw hb9.size
            have hb9w : b9 < wc.heap.size := (Array.getElem?_eq_some_iff.1 h9).1
            obtain ⟨e0, e1, e2, e3, e4, e5, e6, e7⟩ := cells8 HI8x.out.1 HH9.out
            have HXE : Hid (bot n (gz Q k) (gz (LV n) j) = x) := Lib.hid (by rw [← HQD.out, ← HLD.out]; exact HXD.out.symm)
            have hkk := key_ofS HI8x.out
            have HKK := Lib.hid hkk
            clear hstN hstO h9 hb9 hkk hix
            by_cases hxq : x ∈ Q
            · have HAS : Hid (Maps.has D (eS xs) = true) := Lib.hid (by rw [HXS.out]; exact HMD.out.has x hxq)
              have HXQ := Lib.hid hxq
              clear hxq
              go_wp2_with (at_lookup; refine wpList_lookup_own_ok_int _ rfl _ _ 59 rfl 62 3 .i64 keyS Try.underlying59 Try.underlying3 (zeroElS _) bm Q.length D rfl HO9.out _ _ rfl HKK.out ?_; intro cc hcat hcwf; rw [HAS.out]; clear hcat hcwf)
              go_roundg ((LV n).length - (j + 1))
              case measure => have := HGJ.out; omega
              case rel => exact ⟨j + 1, r, Q, d, D, _, cq, by omega, by go_num, hr0, HRK.out, rfl, BF.out.known hkq (by rw [HXE.out]; exact HXQ.out), HMD.out, HO9.out, HQ9.out, HL9.out, HB9w.out⟩
            · have HAS : Hid (Maps.has D (eS xs) = false) := Lib.hid (by rw [HXS.out]; exact HMD.out.hasNot (by omega) (fun q hq => BF.out.ok h2 h6 q hq) HXO.out hxq)
              have HXQ := Lib.hid hxq
              clear hxq
              go_wp2_with (at_lookup; refine wpList_lookup_own_ok_int _ rfl _ _ 59 rfl 62 3 .i64 keyS Try.underlying59 Try.underlying3 (zeroElS _) bm Q.length D rfl HO9.out _ _ rfl HKK.out ?_; intro cc hcat hcwf; rw [HAS.out]; clear hcat hcwf)
              have hdl : d q < Q.length := BF.out.lt q HQM.out
              have hlk := HO9.out.look HMD.out HQM.out (by rw [← HSS.out]; exact HI8s.out)
              rw [← HSS.out] at hlk
              have HO9d : OS wc.drew bm Q.length D := HO9.out.drew
              have hlkd := HO9d.look HMD.out HQM.out (by rw [← HSS.out]; exact HI8s.out)
              rw [← HSS.out] at hlkd
              have HNEW := Lib.hid (BF.out.new (steps_bot n) hkq hjl (by rw [HXE.out]; exact HXQ.out))
              rw [HXE.out, ← HQD.out] at HNEW
              obtain ⟨v, hv⟩ : ∃ v, v = d q := ⟨_, rfl⟩
              rw [← hv] at hdl hlk hlkd HNEW
              have HMDN := Lib.hid (HMD.out.put (by omega) (fun q hq => BF.out.ok h2 h6 q hq) HXO.out HXQ.out (v + 1))
              rw [← HXS.out] at HMDN
              obtain ⟨w7, hup, ho7, hg7d⟩ := HO9d.update keyS Try.underlying59 (by unfold maxLen; omega) HKK.out (plainElem_int (H := Unit) Try.underlying3 (a := (v : Int) + 1) (wf64s (by omega) (by omega)))
              have hg7 : wc.grownBy w7 (some bm) := ⟨hg7d.os, hg7d.tape, hg7d.output, hg7d.size, hg7d.block⟩
              have hnd : DataW.put D (eS xs) (.lit (.int .i64 ((v : Int) + 1))) = D.put (eS xs) (nd (v + 1)) := by unfold nd; push_cast; rfl
              rw [hnd] at ho7
              have HO7 := Lib.hid ho7
              have HG7 := Lib.hid hg7
              have HV := Lib.hid hv
              have hgb : bm < g := hgB
              have HQ7 := Lib.hid (HQ9.out.kept hg7 (fun b hb e => by have h1 : g = b := Option.some.inj hb; have h3 : bm = b := Option.some.inj e; omega))
              have HL7 := Lib.hid (HL9.out.far (Nat.le_refl _) HLB.out (A' := some ⟨bm, 0, none⟩) hg7 (fun b hb => .inr (by have : bm = b := Option.some.inj hb; have := HKM.out; omega)))
              have HB7 : Hid (Below w.heap.size w w7) := Lib.hid (HB9w.out.grown hg7 HB9w.out.size (fun b hb => by have h3 : bm = b := Option.some.inj hb; have := HWM.out; omega))
              have hne9 : b9 ≠ bm := by have h1 := HOS.out.lt; omega
              have HH7 := Lib.hid ((hg7.block b9 hb9w (fun e => hne9 (Option.some.inj e))).trans HH9.out)
              have HZ7 := Lib.hid hg7.size
              obtain ⟨q0, q1, q2, q3, q4, q5, q6, q7⟩ := HC9.out
              have vw : (v : Int) ≤ 46656 := by omega
              clear hv hnd ho7 hg7 hg7d HO9d
              go_region
              obtain ⟨e0, e1, e2, e3, e4, e5, e6, e7⟩ := cells8 HI8x.out.1 HH7.out
              obtain ⟨w8, hw8⟩ : ∃ y : World, y = w7.alloc (.cells #[.int .i64 (gi xs 0), .int .i64 (gi xs 1), .int .i64 (gi xs 2), .int .i64 (gi xs 3), .int .i64 (gi xs 4), .int .i64 (gi xs 5), .int .i64 (gi xs 6), .int .i64 (gi xs 7)] 62) := ⟨_, rfl⟩
              have HQ8 : Hid (QA w8 (bm + 1) (some ⟨g, off, none⟩) r cq (flS (Q.drop k))) := Lib.hid (by rw [hw8]; exact HQ7.out.alloc _)
              have HL8 : Hid (OII w8 w.heap.size K1 (some ⟨gl, 0, none⟩) (LV n).length cL (LV n) SL) := Lib.hid (by rw [hw8]; exact HL7.out.alloc _)
              have HO8 : Hid (OS w8 bm (Q.length + 1) (D.put (eS xs) (nd (v + 1)))) := Lib.hid (by rw [hw8]; exact HO7.out.alloc _)
              have HB8 : Hid (Below w.heap.size w w8) := Lib.hid (by rw [hw8]; exact HB7.out.alloc HB7.out.size _)
              have HN8 : Hid (∀ j u, (I xs)[j]? = some u → w8.cell? ⟨w7.heap.size, j, none⟩ = some u) := Lib.hid (fun j u hu => by
                rw [hw8, arr8 HI8x.out.1]
                simp only [World.cell?, heap_alloc_new w7 _]
                simpa using hu)
              have HW8 := Lib.hid hw8
              have hz8 : bm + 1 ≤ w8.heap.size := by have := HB7.out.size; have h1 := HO7.out.lt; rw [hw8]; simp; omega
              have HFL : Hid (flS ((Q ++ [x]).drop k) = flS (Q.drop k) ++ I xs) := Lib.hid (by rw [List.drop_append_of_le_length (by omega), flS_snoc, HXS.out])
              have HLEN : Hid ((Q ++ [x]).length = Q.length + 1) := Lib.hid (by simp)
              have hr6 : r ≤ 1000000 := by have := HRK.out; omega
              clear hw8 hup hlk hlkd
              go_wp2_with (at_builtin; rw [← HW8.out]; refine wpList_append_QA _ rfl _ _ rfl (bm + 1) (some ⟨g, off, none⟩) r cq _ w7.heap.size (I xs) rfl rfl HQ8.out hr0 hr6 hz8 (by rw [I_length]; exact HI8x.out.1) HN8.out (fun u hu => I_one _ u hu) ?_; intro A9 c9 wq9 ho9 hg9 hl9; have HQ9' := Lib.hid ho9; have HO9' := Lib.hid (HO8.out.kept hg9 (fun e => by have h1 : bm = g := Option.some.inj e; omega)); have HL9' := Lib.hid (HL8.out.far (Nat.le_refl _) HLB.out hg9 (fun b hb => .inr (by have h1 : g = b := Option.some.inj hb; have := HKM.out; omega))); have HB9' := Lib.hid (HB8.out.grown hg9 HB8.out.size (fun b hb => by have h1 : g = b := Option.some.inj hb; have := HWM.out; omega)); clear ho9 hg9 hl9)
              go_roundg ((LV n).length - (j + 1))
              case measure => have := HGJ.out; omega
              case rel => exact ⟨j + 1, r + 1, Q ++ [x], upd d x (v + 1), _, A9, c9, by omega, by go_num, by omega, by rw [HLEN.out]; have := HRK.out; omega, rfl, HNEW.out, HMDN.out, by rw [HLEN.out]; exact HO9'.out, by rw [HFL.out]; exact HQ9'.out, HL9'.out, HB9'.out⟩
          -- END
        · obtain ⟨g, off, rfl, _, _, hrc, _⟩ := hqa.cell hr0
          have j1 : ¬ (j : Int) < ((LV n).length : Int) := by omega
          have HN := Lib.hid (hbf.next hkq (by omega))
          have HTL := Lib.hid hqa.tail
          have HD8 : Hid ((flS (Q.drop k)).drop 8 = flS (Q.drop (k + 1))) := Lib.hid (by rw [drop_gz hkq, flS_drop8])
          obtain ⟨r', rfl⟩ : ∃ r', r = r' + 1 := ⟨r - 1, by omega⟩
          clear hbf hmd hos hqa hL hb
          by_cases hc1 : cq = 1
          · subst hc1
            have hr' : r' = 0 := by omega
            subst hr'
            go_wp2
            go_roundg (46657 - (k + 1))
            case measure => have := HGK.out; omega
            case rel => exact ⟨k + 1, 0, Q, d, D, some ⟨g, off, none⟩, 0, by omega, by have := HRK.out; omega, rfl, HN.out, HMD.out, HOS.out, QA.none_ _ _ _ _ (by rw [flS_len, List.length_drop]; have := HRK.out; omega), HLr.out, HBr.out⟩
          · have hc2 : ¬ 1 = cq := by omega
            go_wp2
            go_roundg (46657 - (k + 1))
            case measure => have := HGK.out; omega
            case rel => exact ⟨k + 1, r', Q, d, D, some ⟨g, off + 8, none⟩, cq - 1, by omega, by have := HRK.out; omega, rfl, HN.out, HMD.out, HOS.out, by rw [← HD8.out]; exact HTL.out, HLr.out, HBr.out⟩
    · have hk : k = Q.length := by omega
      subst hk
      have r1 : ¬ (0 : Int) < (r : Int) := by omega
      have HFIN := Lib.hid (HMD.out.to (fun q hq => BF.out.ok h2 h6 q hq) (fun p hp => BF.out.fin (walks_bot n) h2 h6 hp) h2 h6)
      clear hrk
      go_wp2
      go_ret
      exact ⟨bm, _, D, rfl, HOS.out, HFIN.out, HWM.out, HBr.out⟩
end Go.Proofs.Ytnhhbpogjhcibaa
