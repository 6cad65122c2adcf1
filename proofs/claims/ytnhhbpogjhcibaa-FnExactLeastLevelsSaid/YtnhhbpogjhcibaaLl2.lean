/- LeastLevels, of the program. -/
import Derived.Test.YtnhhbpogjhcibaaLl0
import Derived.Test.YtnhhbpogjhcibaaClP
import Derived.Deep.RegionLaw
namespace Go.Proofs.Ytnhhbpogjhcibaa
open Go Go.RowKit Go.Maps

theorem Lk.kept {wi wj : World} {n b4 b7 bm nb : Nat} {D : DataW Unit} {p : List Int} (h : Lk wi n b4 b7 bm nb D p) {row : Option Nat} (hg : wi.grownBy wj row) (h4 : row ≠ some b4) (h7 : row ≠ some b7) (hm : row ≠ some bm) : Lk wj n b4 b7 bm nb D p :=
  ⟨(hg.cell_far ⟨b4, 0, none⟩ h.h4 (fun e => h4 e.symm)).trans h.c4, Nat.lt_of_lt_of_le h.h4 hg.size, (hg.block b7 h.h7 (fun e => h7 e.symm)).trans h.c7, h.os.kept hg (fun e => hm e.symm), h.md, h.ok⟩
theorem keptSeats {wi wj : World} {B M : Nat} {A : Option Addr} {n c : Nat} {zss : List (List Int)} {S : List Sl} {b : Nat} {cs : Array Value} (h : OII wi B M A n c zss S) (hb : wi.heap[b]? = some (.cells cs 62 (0, 0))) (hg : wi.grownBy wj (some b)) (ha : blk A ≠ some b) : OII wj B M A n c zss S := by
  refine ⟨h.own.kept hg ?_, h.lS, h.lz, fun j s hs => (h.inn j s hs).kept hg (fun x hx e => ?_), h.dis, h.lt, Nat.le_trans h.le hg.size⟩
  · rcases h.form with ⟨rfl, rfl, rfl⟩ | ⟨g, cur, rfl, hB, _⟩
    · exact .inl rfl
    · refine .inr ?_
      simp only [Value.ownBlock]
      intro e
      exact ha e
  · have e2 : b = x := Option.some.inj e
    subst e2
    rcases (h.inn j s hs).form with ⟨e1, _, _⟩ | ⟨g, cur, e1, _, _, hh, _⟩
    · rw [e1] at hx; simp [blk] at hx
    · rw [e1] at hx
      have : g = b := Option.some.inj hx
      subst this
      rw [hb] at hh
      injection hh with h5
      injection h5 with _ h6 _
      exact absurd h6 (by decide)
theorem grownRow (w : World) (g : Nat) (cs : Array Value) : w.grownBy (w.setRow g cs) (some g) := ⟨rfl, rfl, rfl, by simp [World.setRow], fun k _ hk => setRow_other w g k _ (fun e => hk (by rw [e]))⟩
theorem os_apart {w : World} {b bm nb : Nat} {D : DataW Unit} {cs : Array Value} (h : OS w bm nb D) (hb : w.heap[b]? = some (.cells cs 62 (0, 0))) : bm ≠ b := by
  obtain ⟨es, clock, hh, _⟩ := h
  intro e
  subst e
  rw [hb] at hh
  injection hh with h5
  cases h5
/-- a row of slices lies in no block of seats -/
theorem seats_apart {w : World} {B M : Nat} {A : Option Addr} {n c : Nat} {zss : List (List Int)} {S : List Sl} {b : Nat} {cs : Array Value} (h : OII w B M A n c zss S) (hb : w.heap[b]? = some (.cells cs 62 (0, 0))) : blk A ≠ some b := by
  intro e
  rcases h.form with ⟨e2, _, _⟩ | ⟨g, cur, e2, _, _, hh, _⟩
  · rw [e2] at e; simp [blk] at e
  · rw [e2] at e
    have : g = b := Option.some.inj e
    subst this
    rw [hb] at hh
    injection hh with h5
    injection h5 with _ h6 _
    exact absurd h6 (by decide)

theorem size_setRow (w : World) (g : Nat) (cs : Array Value) : (w.setRow g cs).heap.size = w.heap.size := by simp [World.setRow]
theorem Lk.next {w : World} {n b4 b7 bm nb : Nat} {D : DataW Unit} {q q' : List Int} (h : Lk w n b4 b7 bm nb D q) (hok : OKp n q') :
    Lk ((w.setRow b7 (I (seats q')).toArray).alloc (.cells (I (seats q')).toArray 62)) n b4 w.heap.size bm nb D q' := by
  have hne : b4 ≠ b7 := by
    intro e
    have h4 := h.c4
    rw [e, (cells8 (seats_length q) h.c7).1] at h4
    cases h4
  have hg := grownRow w b7 (I (seats q')).toArray
  have ho : OS (w.setRow b7 (I (seats q')).toArray) bm nb D := h.os.kept hg (fun e => os_apart h.os h.c7 (Option.some.inj e))
  refine ⟨?_, ?_, ?_, ho.alloc _, h.md, hok⟩
  · have h1 := (hg.cell_far ⟨b4, 0, none⟩ h.h4 (fun e => hne (Option.some.inj e))).trans h.c4
    exact (((Below.refl (w.setRow b7 (I (seats q')).toArray).heap.size _).alloc (Nat.le_refl _) (.cells (I (seats q')).toArray 62)).cell (p := ⟨b4, 0, none⟩) (show b4 < _ by rw [size_setRow]; exact h.h4)).trans h1
  · simp only [World.size_alloc, size_setRow]; have := h.h4; omega
  · have := heap_alloc_new (w.setRow b7 (I (seats q')).toArray) (.cells (I (seats q')).toArray 62)
    rwa [size_setRow] at this
set_option maxRecDepth 100000 in
set_option maxHeartbeats 4000000 in
theorem iLeastLevels_any (A : Option Addr) (n c : Nat) (p : List Int) (w : World) (h : RI w A n p) (hn : n ≤ 1048576) (hnc : n ≤ c) :
    Calls Try.prog 36 #[.slice A n c] w (FreshSSB w (levL p) (mdB p)) := by
  have hl := h.1
  have HM := Lib.hid (isMade_any A n c p w h hn)
  have HP := Lib.hid h
  rcases hq : mdB p with _ | _
  · rw [levL_no hq]
    rw [hq] at HM
    clear hq h hl
    go_enter Try.func36, Try.ntmps36
    go_wp2_with fail
    refine HM.out.mono ?_
    rintro e w1 ⟨rfl, hb⟩
    go_wp2
    go_ret2
    exact ⟨none, 0, _, [], rfl, OII.none_ _ _, hb⟩
  · rw [levL_yes hq, hl]
    rw [hq] at HM
    have hm := mdB_iff.1 hq
    have hok : OKp n p := ⟨hm.1, hl⟩
    have h2 : 2 ≤ n := by omega
    have h6 : n ≤ 6 := by omega
    have HD := Lib.hid (fun w2 => depthsOf_any n w2 h2 h6)
    have HLV := Lib.hid (fun w2 => levelsFrom_any n (by omega) n 0 (by omega) (by omega) (by omega) w2)
    have HSE := Lib.hid (fun w2 (r : RI w2 A n p) => seatsOf8 A n c p w2 r (by omega))
    have hall := (ordsK_all (n := n) (by omega) (by omega)).mem
    have HALL := Lib.hid hall
    have hLl := LV_len' n h6
    have hd15 : dep n p ≤ 15 := Nat.le_trans (dep_few h2 h6 hok) (ninv_six (by rw [hl]; exact h6))
    have HOK := Lib.hid hok
    obtain ⟨D0, hD0⟩ : ∃ d, d = dep n p := ⟨_, rfl⟩
    have HD0 := Lib.hid hD0
    rw [← hD0] at hd15 ⊢
    obtain ⟨L0, hL0⟩ : ∃ L, L = llL n D0 p := ⟨_, rfl⟩
    have HL0 := Lib.hid hL0
    have HL0L : Hid (L0.length = D0) := Lib.hid (by rw [hL0, llL_len])
    rw [← hL0]
    have hpl : (seats p).length = 8 := seats_length p
    obtain ⟨ss, hss⟩ : ∃ ss, ss = seats p := ⟨_, rfl⟩
    have HSS := Lib.hid hss
    rw [← hss] at HSE hpl
    clear hq h hl hm hok hD0 hL0 hall hss
    go_enter Try.func36, Try.ntmps36
    go_wp2_with fail
    refine HM.out.mono ?_
    rintro e w1 ⟨rfl, hb⟩
    have HP1 := Lib.hid (HP.out.below hb (Nat.le_refl _))
    have HB1 := Lib.hid hb
    clear hb
    go_wp2_with fail
    refine (HD.out _).mono ?_
    rintro e w2 ⟨bm, nb, D, rfl, ho, hmd, hbb, hb⟩
    have HP2 := Lib.hid ((HP1.out.below hb (Nat.le_refl _)).alloc (.cells #[.map (some bm)] 59))
    have HB2 := Lib.hid ((HB1.out.trans (hb.mono HB1.out.size)).alloc (Nat.le_trans HB1.out.size hb.size) (.cells #[.map (some bm)] 59))
    have HO2 := Lib.hid (ho.alloc (.cells #[.map (some bm)] 59))
    have HMD := Lib.hid hmd
    have HC2 := Lib.hid (cellNewAt w2 (.map (some bm)) 59 rfl)
    obtain ⟨b4, hb4⟩ : ∃ b, b = w2.heap.size := ⟨_, rfl⟩
    obtain ⟨w3, hw3⟩ : ∃ v : World, v = w2.alloc (.cells #[.map (some bm)] 59) := ⟨_, rfl⟩
    have HZ3 : Hid (w3.heap.size = b4 + 1) := Lib.hid (by rw [hw3, hb4]; simp)
    rw [← hw3] at HP2 HB2 HO2 HC2
    rw [← hb4] at HC2
    have hbm4 : bm < b4 := by rw [hb4]; exact ho.lt
    clear hb ho hmd
    go_wp2_with fail
    rw [← hb4, ← hw3]
    clear hb4 hw3
    refine (HLV.out _).mono ?_
    rintro e w4 ⟨AL, cL, ML, SL, rfl, oL, hb4⟩
    have hlvn : LV n = lvK n n 0 := rfl
    rw [← hlvn] at oL ⊢
    have HL4 := Lib.hid oL
    have HLB := Lib.hid oL.blkLtC
    have HP4 := Lib.hid (HP2.out.below hb4 (Nat.le_refl _))
    have HB4 := Lib.hid (HB2.out.trans (hb4.mono HB2.out.size))
    have HO4 : Hid (OS w4 bm nb D) := Lib.hid (HO2.out.kept (grown_of_below hb4 none) (by simp))
    have HC4 : Hid (w4.cell? ⟨b4, 0, none⟩ = some (.map (some bm))) := Lib.hid ((hb4.cell (p := ⟨b4, 0, none⟩) (show b4 < w3.heap.size by have := HZ3.out; omega)).trans HC2.out)
    have HZ4 := Lib.hid hb4.size
    clear oL hb4 hlvn
    go_wp2_with fail
    refine (HSE.out _ HP4.out).mono ?_
    rintro e w5 ⟨rfl, hb5⟩
    obtain ⟨b7, hb7⟩ : ∃ b, b = w5.heap.size := ⟨_, rfl⟩
    obtain ⟨w6, hw6⟩ : ∃ v : World, v = w5.alloc (.cells #[.int .i64 (gi ss 0), .int .i64 (gi ss 1), .int .i64 (gi ss 2), .int .i64 (gi ss 3), .int .i64 (gi ss 4), .int .i64 (gi ss 5), .int .i64 (gi ss 6), .int .i64 (gi ss 7)] 62) := ⟨_, rfl⟩
    have HL6 : Hid (OII w6 w3.heap.size ML AL (LV n).length cL (LV n) SL) := Lib.hid (by rw [hw6]; exact (HL4.out.below hb5).alloc _)
    have HB6 : Hid (Below w.heap.size w w6) := Lib.hid (by rw [hw6]; have := HB4.out.trans (hb5.mono HB4.out.size); exact this.alloc this.size _)
    have HK6 : Hid (Lk w6 n b4 b7 bm nb D p) := Lib.hid (by
      have ho5 : OS w5 bm nb D := HO4.out.kept (grown_of_below hb5 none) (by simp)
      have h4 : b4 < w4.heap.size := by have := HZ3.out; have := HZ4.out; omega
      refine ⟨?_, ?_, ?_, by rw [hw6]; exact ho5.alloc _, HMD.out, HOK.out⟩
      · rw [hw6]
        have := ((Below.refl w5.heap.size w5).alloc (Nat.le_refl _) (.cells #[.int .i64 (gi ss 0), .int .i64 (gi ss 1), .int .i64 (gi ss 2), .int .i64 (gi ss 3), .int .i64 (gi ss 4), .int .i64 (gi ss 5), .int .i64 (gi ss 6), .int .i64 (gi ss 7)] 62)).cell (p := ⟨b4, 0, none⟩) (Nat.lt_of_lt_of_le h4 hb5.size)
        exact this.trans ((hb5.cell (p := ⟨b4, 0, none⟩) h4).trans HC4.out)
      · rw [hw6]; simp; have := hb5.size; omega
      · rw [hw6, hb7, arr8 hpl, HSS.out]; exact heap_alloc_new w5 _)
    obtain ⟨K, hK⟩ : ∃ K, K = w6.heap.size := ⟨_, rfl⟩
    have HK := Lib.hid hK
    have h4K : b4 < K := by rw [hK]; exact HK6.out.h4
    have hmK : bm < K := by omega
    have HBLK : Hid (∀ b, blk AL = some b → b < K) := Lib.hid (fun b hb => by rw [hK, hw6]; have := HLB.out b hb; have := hb5.size; simp; omega)
    have HML : Hid (ML ≤ K) := Lib.hid (by rw [hK]; exact HL6.out.le)
    have HWK : Hid (w.heap.size ≤ K) := Lib.hid (by rw [hK]; exact HB6.out.size)
    have HWB7 : Hid (w.heap.size ≤ b7) := Lib.hid (by rw [hb7]; exact Nat.le_trans HB4.out.size hb5.size)
    have HB7E := Lib.hid hb7
    have HW6E := Lib.hid hw6
    have HLBASE : Hid (w3.heap.size ≤ K) := Lib.hid (by rw [hK, hw6]; have := HZ4.out; have := hb5.size; simp; omega)
    clear hb5 hb7 hw6 hK
    go_wp2
    rw [← HB7E.out, ← HW6E.out]
    clear HB7E HW6E
    go_loopg [6, 7] D0 (fun gk s6 s7 wr => ∃ (q : List Int) (Lo : List (List Int)) (Ao : Option Addr) (co Mo b7 : Nat) (So : List Sl), s7 = .pointer (some ⟨b7, 0, none⟩) ∧ w.heap.size ≤ b7 ∧ s6 = .slice Ao Lo.length co ∧ dep n q = gk ∧ Lo ++ llL n gk q = L0 ∧ Lk wr n b4 b7 bm nb D q ∧ OII wr K Mo Ao Lo.length co Lo So ∧ OII wr w3.heap.size ML AL (LV n).length cL (LV n) SL ∧ K ≤ wr.heap.size ∧ Below w.heap.size w wr)
    case atStart => exact ⟨p, [], none, 0, _, b7, [], rfl, HWB7.out, rfl, HD0.out.symm, HL0.out.symm, HK6.out, OII.none_ _ _, HL6.out, by rw [HK.out]; exact Nat.le_refl _, HB6.out⟩
    case round =>
      obtain ⟨q, Lo, Ao, co, Mo, b7, So, rfl, hw7, rfl, hd, hLo, hlk, ho, hL, hkl, hb⟩ := hrel
      have HLK := Lib.hid hlk
      have HD := Lib.hid hd
      have HLO := Lib.hid hLo
      have HO := Lib.hid ho
      have HL := Lib.hid hL
      have HKW := Lib.hid hkl
      have HBr := Lib.hid hb
      have HOK := Lib.hid hlk.ok
      have hi8 := seatsIn (n := n) (by omega) hlk.ok
      obtain ⟨qs, hqs⟩ : ∃ s, s = seats q := ⟨_, rfl⟩
      have hq8 : qs.length = 8 := by rw [hqs]; exact hi8.1
      have hc7 := hlk.c7
      have hlk7 := hlk.os.look hlk.md ((HALL.out q).2 hlk.ok) hi8
      rw [← hqs] at hc7 hlk7
      have HC7 := Lib.hid hc7
      have HQS := Lib.hid hqs
      obtain ⟨e0, e1, e2, e3, e4, e5, e6, e7⟩ := cells8 hq8 hc7
      have c4 := hlk.c4
      have h4z := hlk.h4
      have h7z := hlk.h7
      rw [hd] at hlk7
      have hgk15 : gk ≤ 15 := by
        have := congrArg List.length hLo
        rw [List.length_append, llL_len, HL0L.out] at this
        omega
      have hLol : Lo.length ≤ 15 := by
        have := congrArg List.length hLo
        rw [List.length_append, HL0L.out] at this
        omega
      clear hd hLo hlk ho hL hkl hb hi8 hqs hc7
      rcases Nat.eq_zero_or_pos gk with h0 | h0
      · have hn0 : ¬ (0 : Int) < (gk : Int) := by omega
        have e : Lo = L0 := by have := HLO.out; rw [h0] at this; simpa [llL] using this
        subst e
        go_wp2
        go_ret2
        exact ⟨Ao, co, Mo, So, rfl, HO.out.mono HWK.out, HBr.out⟩
      · have hn0 : (0 : Int) < (gk : Int) := by omega
        have HIX := Lib.hid (indexFunc_any n b4 b7 bm nb w3.heap.size ML D q AL cL SL wr h2 h6 (Nat.le_trans HLBASE.out HKW.out) HLK.out HL.out (by rw [HD.out]; exact h0))
        go_wp2_with fail
        refine HIX.out.mono ?_
        rintro e w7 ⟨rfl, hb7⟩
        obtain ⟨m, rfl⟩ : ∃ m, gk = m + 1 := ⟨gk - 1, by omega⟩
        obtain ⟨hlt, hok2, hdm, _⟩ := ll_next h2 h6 HOK.out HD.out
        have HLK7 := Lib.hid (HLK.out.below hb7)
        have HL7 := Lib.hid (HL.out.below hb7)
        have HO7 := Lib.hid (HO.out.below hb7)
        have HB7 := Lib.hid (HBr.out.trans (hb7.mono HBr.out.size))
        have HK7 : Hid (K ≤ w7.heap.size) := Lib.hid (Nat.le_trans HKW.out hb7.size)
        obtain ⟨gl, la, lm, ld, hALe, hgl, hglB, hSj, hcl, hol⟩ := HL7.out.row hlt
        subst hALe
        have hlmem : gz (LV n) (fstI n q) ∈ LV n := mem_gz.2 ⟨_, hlt, rfl⟩
        have hlm : lm ≤ 1048576 := by rw [← hol.1]; have := lvK_row n n 0 _ hlmem; omega
        obtain ⟨l, hl⟩ : ∃ l, l = gz (LV n) (fstI n q) := ⟨_, rfl⟩
        rw [← hl] at hol hlmem hok2 hdm
        have HLE := Lib.hid hl
        have HLMEM := Lib.hid hlmem
        have HOK2 := Lib.hid hok2
        have HDM := Lib.hid hdm
        have HRI7 := Lib.hid hol.ri
        obtain ⟨f, hf⟩ : ∃ f, f = fstI n q := ⟨_, rfl⟩
        rw [← hf] at hlt hSj hcl
        rw [← hf]
        have HFE := Lib.hid hf
        have f0 : (0 : Int) ≤ (f : Int) := by omega
        have f1 : (f : Int) < ((LV n).length : Int) := by omega
        clear hb7 hol hl hlmem hok2 hdm hf hlk7 c4 e0 e1 e2 e3 e4 e5 e6 e7
        go_wp2_with fail
        refine (cloneP_any la lm ld l _ HRI7.out hlm).mono ?_
        rintro e w8 ⟨A8, c8, rfl, o8, hb8⟩
        have HO8 := Lib.hid o8
        have HLK8 := Lib.hid (HLK7.out.below hb8)
        have HL8 := Lib.hid (HL7.out.below hb8)
        have HOO8 := Lib.hid (HO7.out.below hb8)
        have HB8 := Lib.hid (HB7.out.trans (hb8.mono HB7.out.size))
        have HZ8 := Lib.hid hb8.size
        clear o8 hb8
        have hKK7 := HK7.out
        have hz78 := HZ8.out
        go_wp2_with (at_builtin; refine wpList_append_slA _ rfl _ _ rfl K w7.heap.size Ao Lo.length co Lo So A8 lm c8 l _ rfl rfl ((HOO8.out.atMost HO7.out.le hz78).alloc _) (HO8.out.alloc _) hKK7 (cellNewAt _ _ _ rfl) (by omega) (by simp; omega) ?_; intro A9 c9 w9 ho9 hg9 hat9; have HO9 := Lib.hid ho9; have HLK9 := Lib.hid ((HLK8.out.below ((Below.refl _ _).alloc (Nat.le_refl _) (.cells #[.slice A8 lm c8] 22))).kept hg9 (fun e => by have := HOO8.out.blkB b4 e; omega) (seats_apart (HOO8.out.alloc (.cells #[.slice A8 lm c8] 22)) (HLK8.out.below ((Below.refl _ _).alloc (Nat.le_refl _) (.cells #[.slice A8 lm c8] 22))).c7) (fun e => by have := HOO8.out.blkB bm e; omega)); have HL9 := Lib.hid ((HL8.out.alloc (.cells #[.slice A8 lm c8] 22)).far HML.out HBLK.out hg9 (fun x hx => .inr (HOO8.out.blkB x hx))); have HB9 := Lib.hid ((HB8.out.alloc HB8.out.size _).grown hg9 (by have := HB8.out.size; simp; omega) (fun x hx => by have h1 := HOO8.out.blkB x hx; have := HWK.out; omega)); have HK9 : Hid (K ≤ w9.heap.size) := Lib.hid (by have := hg9.size; simp at this; omega); clear ho9 hg9 hat9)
        obtain ⟨gl', la9, lm9, ld9, e9, hgl9, _, hSj9, hcl9, hol9⟩ := HL9.out.row hlt
        injection e9 with e9; injection e9 with e9 _ _
        subst e9
        have hlm9 : lm9 ≤ 1048576 := by rw [← hol9.1]; have := lvK_row n n 0 _ (show gz (LV n) f ∈ LV n from mem_gz.2 ⟨f, hlt, rfl⟩); omega
        have hle9 : gz (LV n) f = l := by rw [HFE.out]; exact HLE.out.symm
        rw [hle9] at hol9
        have HRI9 := Lib.hid hol9.ri
        have hqi8 := seatsIn (n := n) (by omega) HOK.out
        have hxi8 := seatsIn (n := n) (by omega) HOK2.out
        have hsl : (sl8 l).length = 8 := sl8_length l
        have hin : In8 (sl8 l) := by
          rw [sl8_eq (n := n) (by omega) (fun x hx => (LV_mem HLMEM.out x hx).2)]
          exact seatsIn (n := n) (by omega) (top_ok l (upto_ok (by omega) (by omega)) (LV_mem HLMEM.out))
        have hX : thn (sl8 l) (seats q) = seats (top q l) := thn_top (by omega) (by omega) HOK.out.2 (LV_mem HLMEM.out)
        obtain ⟨ls, hls⟩ : ∃ ls, ls = sl8 l := ⟨_, rfl⟩
        obtain ⟨xs, hxs⟩ : ∃ xs, xs = seats (top q l) := ⟨_, rfl⟩
        have HXS := Lib.hid hxs
        have HLS : Hid (∀ w', RI w' la9 lm9 l → Calls Try.prog 64 #[.slice la9 lm9 ld9] w' (fun e w'' => e = .returned (.agg #[.int .i64 (gi ls 0), .int .i64 (gi ls 1), .int .i64 (gi ls 2), .int .i64 (gi ls 3), .int .i64 (gi ls 4), .int .i64 (gi ls 5), .int .i64 (gi ls 6), .int .i64 (gi ls 7)]) ∧ Below w'.heap.size w' w'')) := Lib.hid (fun w' hr => by
          have := levelSeats_any la9 lm9 ld9 l w' hr hlm9 (LV7 h6 HLMEM.out)
          rw [hls, arr8 hsl]
          exact this)
        have HTH : Hid (∀ w', Calls Try.prog 65 #[.agg #[.int .i64 (gi ls 0), .int .i64 (gi ls 1), .int .i64 (gi ls 2), .int .i64 (gi ls 3), .int .i64 (gi ls 4), .int .i64 (gi ls 5), .int .i64 (gi ls 6), .int .i64 (gi ls 7)], .agg #[.int .i64 (gi qs 0), .int .i64 (gi qs 1), .int .i64 (gi qs 2), .int .i64 (gi qs 3), .int .i64 (gi qs 4), .int .i64 (gi qs 5), .int .i64 (gi qs 6), .int .i64 (gi qs 7)]] w' (fun e w'' => e = .returned (.agg (I xs).toArray) ∧ Below w'.heap.size w' w'')) := Lib.hid (fun w' => by
          have := then_any (sl8 l) (seats q) w' hin hqi8.1
          rw [hX, ← hxs] at this
          rw [hls, HQS.out, arr8 hsl, arr8 hqi8.1]
          exact this)
        have hx8 : xs.length = 8 := by rw [hxs]; exact hxi8.1
        have hix : (I xs).length = 8 := by rw [I_length]; exact hx8
        have HX8 := Lib.hid hx8
        have hc79 : w9.heap[b7]? = some (.cells (I qs).toArray 62 (0, 0)) := by rw [HQS.out]; exact HLK9.out.c7
        have HC79 := Lib.hid hc79
        have h7z9 := HLK9.out.h7
        obtain ⟨e0, e1, e2, e3, e4, e5, e6, e7⟩ := cells8 hq8 hc79
        have hstO : ∀ (w' : World), w'.heap[b7]? = some (.cells (I qs).toArray 62 (0, 0)) → (storeCells ⟨b7, 0, none⟩ (I xs)).run Try.prog w' = .ok () (w'.setRow b7 (I xs).toArray) := fun w' hb' => by
          have := run_storeCells_from (P := Try.prog) b7 62 (I xs) 0 (I qs).toArray w' hb' (by simp [I, hx8, hq8]) (fun v hv => I_one _ v hv)
          rwa [List.take_zero, List.nil_append] at this
        clear hol9 hle9 hqi8 hxi8 hsl hin hX hls hxs hx8 hc79 hSj9
        go_region_law (first
          | (go_simp; go_at_call 64; refine (HLS.out _ (by first | exact HRI9.out | exact RI.drewU HRI9.out)).mono ?_; rintro e w10 ⟨rfl, hb10⟩; have b10 : Hid (Below w9.heap.size w9 w10) := Lib.hid (by first | exact hb10 | exact (Below.refl _ w9).drew.trans hb10); have c10 : w10.heap[b7]? = some (.cells (I qs).toArray 62 (0, 0)) := (b10.out.block b7 h7z9).trans HC79.out; obtain ⟨g0, g1, g2, g3, g4, g5, g6, g7⟩ := cells8 hq8 c10; clear hb10)
          | (go_simp; go_at_call 65; refine (HTH.out _).mono ?_; rintro e w11 ⟨rfl, hb11⟩; have b11 : Hid (Below w9.heap.size w9 w11) := Lib.hid (b10.out.trans (hb11.mono b10.out.size)); have c11 : w11.heap[b7]? = some (.cells (I qs).toArray 62 (0, 0)) := (b11.out.block b7 h7z9).trans HC79.out; have hs11 := setRow_heap w11 b7 _ (I xs).toArray 62 _ c11; obtain ⟨k0, k1, k2, k3, k4, k5, k6, k7⟩ := cells8 HX8.out hs11; have HS11 := Lib.hid hs11; have HC11 := Lib.hid c11; clear hb11 hs11))
        all_goals
          go_wp2
          go_roundg m
          case measure => omega
          case rel =>
            have HLKb := (HLK9.out.below b11.out).next HOK2.out
            rw [← HXS.out, ← arr8 HX8.out] at HLKb
            have HLKc : Lk ((w11.setRow b7 (I xs).toArray).alloc (.cells #[.int .i64 (gi xs 0), .int .i64 (gi xs 1), .int .i64 (gi xs 2), .int .i64 (gi xs 3), .int .i64 (gi xs 4), .int .i64 (gi xs 5), .int .i64 (gi xs 6), .int .i64 (gi xs 7)] 62)) n b4 w11.heap.size bm nb D (top q l) := by
              have := HLKb
              rwa [arr8 HX8.out] at this ⊢
            have hO11 := HO9.out.below b11.out
            have hL11 := HL9.out.below b11.out
            have hg := grownRow w11 b7 (I xs).toArray
            have hO12 := (keptSeats hO11 HC11.out hg (seats_apart hO11 HC11.out)).alloc (.cells #[.int .i64 (gi xs 0), .int .i64 (gi xs 1), .int .i64 (gi xs 2), .int .i64 (gi xs 3), .int .i64 (gi xs 4), .int .i64 (gi xs 5), .int .i64 (gi xs 6), .int .i64 (gi xs 7)] 62)
            have hL12 := (keptSeats hL11 HC11.out hg (seats_apart hL11 HC11.out)).alloc (.cells #[.int .i64 (gi xs 0), .int .i64 (gi xs 1), .int .i64 (gi xs 2), .int .i64 (gi xs 3), .int .i64 (gi xs 4), .int .i64 (gi xs 5), .int .i64 (gi xs 6), .int .i64 (gi xs 7)] 62)
            have hB12 : Below w.heap.size w ((w11.setRow b7 (I xs).toArray).alloc (.cells #[.int .i64 (gi xs 0), .int .i64 (gi xs 1), .int .i64 (gi xs 2), .int .i64 (gi xs 3), .int .i64 (gi xs 4), .int .i64 (gi xs 5), .int .i64 (gi xs 6), .int .i64 (gi xs 7)] 62)) := by
              have h1 := HB9.out.trans (b11.out.mono HB9.out.size)
              have h3 := h1.grown hg h1.size (fun x hx => by have : b7 = x := Option.some.inj hx; omega)
              exact h3.alloc h3.size _
            have hK12 : K ≤ ((w11.setRow b7 (I xs).toArray).alloc (.cells #[.int .i64 (gi xs 0), .int .i64 (gi xs 1), .int .i64 (gi xs 2), .int .i64 (gi xs 3), .int .i64 (gi xs 4), .int .i64 (gi xs 5), .int .i64 (gi xs 6), .int .i64 (gi xs 7)] 62)).heap.size := by
              simp only [World.size_alloc, size_setRow]; have := HK9.out; have := b11.out.size; omega
            have hW12 : w.heap.size ≤ w11.heap.size := by have := HB9.out.size; have := b11.out.size; omega
            have hz := HLO.out
            simp only [llL] at hz
            rw [← HLE.out] at hz
            exact ⟨top q l, Lo ++ [l], A9, c9, _, w11.heap.size, _, rfl, hW12, by simp, HDM.out, by rw [List.append_assoc]; exact hz, HLKc, by simpa using hO12, hL12, hK12, hB12⟩
end Go.Proofs.Ytnhhbpogjhcibaa
