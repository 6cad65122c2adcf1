/- Games of rungs, the taking game: its outlooks, with those that are known held in a map; over whatever positions. -/
import Derived.Test.YtiapbmgpjloafaaGo2
import Derived.Handy
import Derived.Deep.RegionWith
namespace Go.Proofs.Ytiapbmgpjloafaa
open Go Go.RowKit

/-- what the methods of the game do -/
structure GmT (posV : Nat → Value) (good : Nat → Prop) (ch : Nat → List Int) (nx : Nat → Nat → Nat) (won : Nat → Bool) (ov : Nat → OutP) (Lnd : World → Prop) (b : Nat) : Prop where
  key : ∀ p w, good p → Lnd w → Calls Try.prog 85 #[posV p] w (RetI (p : Int) w)
  isw : ∀ p w, good p → Lnd w → Calls Try.prog 84 #[posV p] w (RetB (won p) w)
  cho : ∀ p w, good p → Lnd w → Calls Try.prog 83 #[posV p] w (FreshI w (ch p).length (ch p))
  aft : ∀ p (i : Nat) w, good p → (i : Int) ∈ ch p → Lnd w → Calls Try.prog 82 #[posV p, .int .i64 (i : Int)] w (fun e w' => e = .returned (.iface 70 (posV (nx p i))) ∧ Below w.heap.size w w')
  nxt : ∀ p (i : Nat), good p → (i : Int) ∈ ch p → good (nx p i) ∧ nx p i < p
  chn : ∀ p j, good p → j < (ch p).length → ∃ i : Nat, i < 1000 ∧ gi (ch p) j = (i : Int)
  len : ∀ p, good p → (ch p).length ≤ 1000
  ovE : ∀ p, good p → ov p = bstK (fun j => behP (ov (nx p (gi (ch p) j).toNat))) (won p) (ch p).length
  mv : ∀ p, good p → (ov p).2 ≤ 900000
  keep : ∀ w w', Lnd w → w.grownBy w' (some b) → Lnd w'

def OfPostT (V : Nat → Option OutP) (b : Nat) (o : OutP) (w : World) (e : Ending) (w' : World) : Prop := e = .returned (ovV o) ∧ Memo w' b V ∧ w.grownBy w' (some b)

theorem cellsGo {w : World} {B b : Nat} {n c : Nat} {zs : List Int} (h : OI w B (some ⟨b, 0, none⟩) n c zs) (j : Nat) (hj : j < n) : w.cell? ⟨b, j, none⟩ = some (.int .i64 (gi zs j)) := by
  obtain ⟨b', off', e, _, hc⟩ := h.ri.cell hj
  injection e with e; injection e with e1 e2 e3
  subst e1 e2
  have := hc j hj
  rwa [Nat.zero_add] at this
theorem memoPut {w : World} {b c : Nat} {V : Nat → Option OutP} (h : Hid (Memo w b V)) (hc : c ≠ b) (x y : Value) : Memo ((w.setCell ⟨c, 0, none⟩ x).setCell ⟨c, 1, none⟩ y) b V :=
  (h.out.set (p := ⟨c, 0, none⟩) (by simp; omega) x).set (p := ⟨c, 1, none⟩) (by simp; omega) y
theorem oiStepG {wi wj : World} {B : Nat} {A : Option Addr} {n c : Nat} {zs : List Int} (h : Hid (OI wi B A n c zs)) (hb : Below wi.heap.size wi wj) : Hid (OI wj B A n c zs) := h.out.below hb
theorem oiAllocG {wi : World} {B : Nat} {A : Option Addr} {n c : Nat} {zs : List Int} (h : Hid (OI wi B A n c zs)) (o : Obj) : Hid (OI (wi.alloc o) B A n c zs) := h.out.alloc o
theorem memoEnd {w : World} {b c : Nat} {V : Nat → Option OutP} (h : Hid (Memo w b V)) (hc : c ≠ b) (x y : Value) (o : Obj) : Memo (((w.setCell ⟨c, 0, none⟩ x).setCell ⟨c, 1, none⟩ y).alloc o) b V :=
  ((h.out.set (p := ⟨c, 0, none⟩) (by simp; omega) x).set (p := ⟨c, 1, none⟩) (by simp; omega) y).below (allocBelG _ _)
theorem bst_mv {f : Nat → OutP} {w0 : Bool} {m : Nat} (h : ∀ j, j < m → (f j).2 ≤ 1000000) : ∀ k, k ≤ m → (bstK f w0 k).2 ≤ 1000000
  | 0, _ => by simp [bstK]
  | k + 1, hk => by
    simp only [bstK]
    split
    · exact h k (by omega)
    · exact bst_mv h k (by omega)
section
variable {posV : Nat → Value} {good : Nat → Prop} {ch : Nat → List Int} {nx : Nat → Nat → Nat} {won : Nat → Bool} {ov : Nat → OutP} {Lnd : World → Prop} {b : Nat}

set_option maxRecDepth 100000 in
set_option maxHeartbeats 1000000 in
theorem behindT_of (V : Nat → Option OutP) (G : GmT posV good ch nx won ov Lnd b) (p i : Nat) (hp : good p) (hi : (i : Int) ∈ ch p) (w : World) (hL : Lnd w) (hM : Memo w b V)
    (HOF : Hid (∀ w2, Lnd w2 → Memo w2 b V → Calls Try.prog 57 #[.map (some b), .iface 70 (posV (nx p i))] w2 (OfPostT V b (ov (nx p i)) w2))) :
    Calls Try.prog 58 #[.map (some b), .iface 70 (posV p), .int .i64 (i : Int)] w (OfPostT V b (behP (ov (nx p i))) w) := by
  have HAF := Lib.hid (fun w2 (l : Lnd w2) => G.aft p i w2 hp hi l)
  have hmv := G.mv _ (G.nxt p i hp hi).1
  have HKp := Lib.hid G.keep
  obtain ⟨v, hv⟩ : ∃ v, v = posV p := ⟨_, rfl⟩
  obtain ⟨v2, hv2⟩ : ∃ v2, v2 = posV (nx p i) := ⟨_, rfl⟩
  rw [← hv, ← hv2] at HAF
  rw [← hv2] at HOF
  rw [← hv]
  obtain ⟨o, ho⟩ : ∃ o, o = ov (nx p i) := ⟨_, rfl⟩
  rw [← ho] at HOF hmv ⊢
  have HMm := Lib.hid hM
  have hbw : b < w.heap.size := hM.lt
  clear hv hv2 ho hi hp hM G
  obtain ⟨q, mvs⟩ := o
  simp only at hmv
  have hmw : IntKind.i64.wrap ((mvs : Int) + 1) = ((mvs + 1 : Nat) : Int) := by rw [IntWalk.i64_in _ (by omega)]; omega
  have HL0 := Lib.hid (HKp.out w (w.alloc (.cells #[.bool false, .int .i64 0] 75)) hL (grown_of_below (allocBelG w _) _))
  have HM0 := memoAlloc HMm (.cells #[.bool false, .int .i64 0] 75)
  have HC := cellNew w (.bool false) (.int .i64 0) 75
  have HG := grAlloc (grRefl w b) (.cells #[.bool false, .int .i64 0] 75)
  clear hL HMm
  go_enter Try.func58, Try.ntmps58
  go_wp2_with fail
  refine (HAF.out _ HL0.out).mono ?_
  rintro e w1 ⟨rfl, hb⟩
  have HL1 := Lib.hid (HKp.out _ _ HL0.out (grown_of_below hb (some b)))
  have HM1 := memoBelow HM0 hb
  have HC1 := cellStep HC hb
  have HG1 := grBelow HG hb
  clear hb HL0 HM0 HC HG HAF
  go_wp2_with fail
  refine (HOF.out _ HL1.out HM1.out).mono ?_
  rintro e w2 ⟨rfl, hm, hg⟩
  have HC2 := c2Gr HC1 hg (by omega)
  have HG2 := grTrans HG1 hg
  have HM2 := Lib.hid hm
  have hz2 : b < w2.heap.size := hm.lt
  have hzw : w.heap.size < w2.heap.size := HC2.out.lt
  clear hm hg HC1 HG1 HM1 HL1 HOF
  have k0 := HC2.out.c0; have k1 := HC2.out.c1; have f0 := HC2.out.f0; have f1 := HC2.out.f1; have cz := HC2.out.lt
  unfold ovV
  have HE := fun o => cellAlloc (cellPut HC2 (.bool !q) (.int .i64 ((mvs : Int) + 1))) o
  have e0 := fun o => (HE o).out.c0
  have e1 := fun o => (HE o).out.c1
  clear HE
  go_wp2
  exact bodyPost_ret (v := .agg #[.bool !q, .int .i64 ((mvs + 1 : Nat) : Int)]) (by simp [results, Try.results58, go_sem, e0, e1]) rfl
    ⟨rfl, memoEnd HM2 (by omega) _ _ _, (grAlloc (grSet (grSet HG2 (by simp) _) (by simp) _) _).out⟩

theorem gi_memGT {L : List Int} {j : Nat} (h : j < L.length) : gi L j ∈ L := by rw [gi_lt h]; exact List.getElem_mem h
theorem beh_mvT (G : GmT posV good ch nx won ov Lnd b) (p : Nat) (hp : good p) (j : Nat) (hj : j < (ch p).length) : (behP (ov (nx p (gi (ch p) j).toNat))).2 ≤ 1000000 := by
  obtain ⟨i, _, hi⟩ := G.chn p j hp hj
  have hm := gi_memGT hj
  rw [hi] at hm ⊢
  rw [Int.toNat_natCast]
  have := G.mv _ (G.nxt p i hp hm).1
  unfold behP
  simp only; omega
theorem behindJT (V : Nat → Option OutP) (G : GmT posV good ch nx won ov Lnd b) (p : Nat) (hp : good p) (j : Nat) (hj : j < (ch p).length) (w : World) (hL : Lnd w) (hM : Memo w b V)
    (HOF : ∀ i : Nat, (i : Int) ∈ ch p → Hid (∀ w2, Lnd w2 → Memo w2 b V → Calls Try.prog 57 #[.map (some b), .iface 70 (posV (nx p i))] w2 (OfPostT V b (ov (nx p i)) w2))) :
    Calls Try.prog 58 #[.map (some b), .iface 70 (posV p), .int .i64 (gi (ch p) j)] w (OfPostT V b (behP (ov (nx p (gi (ch p) j).toNat))) w) := by
  obtain ⟨i, _, hi⟩ := G.chn p j hp hj
  have hm := gi_memGT hj
  rw [hi] at hm ⊢
  rw [Int.toNat_natCast]
  exact behindT_of V G p i hp hm w hL hM (HOF i hm)

set_option maxRecDepth 100000 in
set_option maxHeartbeats 2000000 in
theorem ofT_any (V : Nat → Option OutP) (hV : ∀ p, good p → V p = some (ov p)) (G : GmT posV good ch nx won ov Lnd b) : ∀ (M p : Nat), p < M → good p → ∀ (w : World), Lnd w → Memo w b V →
    Calls Try.prog 57 #[.map (some b), .iface 70 (posV p)] w (OfPostT V b (ov p) w) := by
  intro M
  induction M with
  | zero => intro p h; omega
  | succ M ih =>
    intro p hpM hp w hL hM
    have HKp := Lib.hid G.keep
    have HKEY := Lib.hid (fun w2 (l : Lnd w2) => G.key p w2 hp l)
    have HISW := Lib.hid (fun w2 (l : Lnd w2) => G.isw p w2 hp l)
    have HCHO := Lib.hid (fun w2 (l : Lnd w2) => G.cho p w2 hp l)
    have HBEH := Lib.hid (fun j (hj : j < (ch p).length) w2 (l : Lnd w2) (m : Memo w2 b V) => behindJT V G p hp j hj w2 l m (fun i hi => by
      obtain ⟨h1, h2⟩ := G.nxt p i hp hi
      exact Lib.hid (fun w3 l3 m3 => ih (nx p i) (by omega) h1 w3 l3 m3)))
    have hovE := G.ovE p hp
    have hVp := hV p hp
    have hlen := G.len p hp
    have HMV := Lib.hid (fun j (hj : j < (ch p).length) => beh_mvT G p hp j hj)
    obtain ⟨f, hf⟩ : ∃ f : Nat → OutP, f = fun j => behP (ov (nx p (gi (ch p) j).toNat)) := ⟨_, rfl⟩
    have HBM := Lib.hid (fun k (hk : k ≤ (ch p).length) => bst_mv (f := f) (w0 := won p) (fun j hj => by rw [hf]; exact HMV.out j hj) k hk)
    have hfj : ∀ j, behP (ov (nx p (gi (ch p) j).toNat)) = f j := fun j => by rw [hf]
    simp only [hfj] at HBEH HMV
    rw [← hf] at hovE
    obtain ⟨v, hv⟩ : ∃ v, v = posV p := ⟨_, rfl⟩
    rw [← hv] at HKEY HISW HCHO HBEH
    rw [← hv]
    have HCHN := Lib.hid (fun j (hj : j < (ch p).length) => G.chn p j hp hj)
    obtain ⟨L, hLL⟩ : ∃ L, L = ch p := ⟨_, rfl⟩
    rw [← hLL] at HCHO HBEH hovE hlen HMV HBM HCHN
    obtain ⟨w0, hw0⟩ : ∃ w0, w0 = won p := ⟨_, rfl⟩
    rw [← hw0] at HISW HBM hovE
    have HOV := Lib.hid hovE
    rw [hovE] at hVp
    rw [hovE]
    have HVP := Lib.hid hVp
    have hbw : b < w.heap.size := hM.lt
    have HLw := Lib.hid hL
    have HL0 := Lib.hid (HKp.out w (w.alloc (.cells #[.bool false, .int .i64 0] 75)) hL (grown_of_below (allocBelG w _) _))
    have HM0 := memoAlloc (Lib.hid hM) (.cells #[.bool false, .int .i64 0] 75)
    have HC := cellNew w (.bool false) (.int .i64 0) 75
    have HG := grAlloc (grRefl w b) (.cells #[.bool false, .int .i64 0] 75)
    obtain ⟨m, hm⟩ : ∃ m, m = L.length := ⟨_, rfl⟩
    rw [← hm] at HCHO HBEH hlen HMV HBM HCHN
    rw [← hm] at HVP ⊢
    clear hL hM hv hw0 hovE hVp hf hfj hLL hp hV G ih HOV hm
    go_enter Try.func57, Try.ntmps57
    go_wp2_with fail
    refine (HKEY.out _ HL0.out).mono ?_
    rintro e w1 ⟨rfl, hb⟩
    have HL1 := Lib.hid (HKp.out _ _ HL0.out (grown_of_below hb (some b)))
    have HM1 := memoBelow HM0 hb
    have HC1 := cellStep HC hb
    have HG1 := grBelow HG hb
    have hz1 : w.heap.size < w1.heap.size := HC1.out.lt
    clear hb HL0 HM0 HC HG
    have k0 := HC1.out.c0; have k1 := HC1.out.c1; have f0 := HC1.out.f0; have f1 := HC1.out.f1
    rcases look_memo HM1.out p with hlk | ⟨o, ho, hlk⟩
    · go_wp2_with fail
      have HLa := Lib.hid (HKp.out _ _ HL1.out (grown_of_below (allocBelG w1 (.cells #[.bool false, .int .i64 0] 75)) (some b)))
      refine (HISW.out _ HLa.out).mono ?_
      rintro e w2 ⟨rfl, hb⟩
      have HL2 := Lib.hid (HKp.out _ _ HLa.out (grown_of_below hb (some b)))
      have HM2 := memoBelow (memoAlloc HM1 (.cells #[.bool false, .int .i64 0] 75)) hb
      have HC2 := cellStep (cellAlloc HC1 (.cells #[.bool false, .int .i64 0] 75)) hb
      have HG2 := grBelow (grAlloc HG1 (.cells #[.bool false, .int .i64 0] 75)) hb
      have hz2 : w1.heap.size + 1 ≤ w2.heap.size := by have := hb.size; simpa using this
      clear hb hlk k0 k1 f0 f1 HC1 HG1 HM1 HL1 HLa HISW
      go_wp2_with fail
      have HL2a := Lib.hid (HKp.out _ _ HL2.out (grown_of_below (allocBelG w2 (.cells #[.bool w0, .int .i64 0] 75)) (some b)))
      have HM2a := memoAlloc HM2 (.cells #[.bool w0, .int .i64 0] 75)
      have HC2a := cellAlloc HC2 (.cells #[.bool w0, .int .i64 0] 75)
      have HG2a := grAlloc HG2 (.cells #[.bool w0, .int .i64 0] 75)
      have HBs := cellNew w2 (.bool w0) (.int .i64 0) 75
      refine (HCHO.out _ HL2a.out).mono ?_
      rintro e w3 ⟨C1, d3, rfl, o3, hb⟩
      have HL3 := Lib.hid (HKp.out _ _ HL2a.out (grown_of_below hb (some b)))
      have HM3 := memoBelow HM2a hb
      have HC3 := cellStep HC2a hb
      have HG3 := grBelow HG2a hb
      have HB3 := cellStep HBs hb
      have HO3 : Hid (OI w3 (w2.heap.size + 1) C1 m d3 L) := Lib.hid (o3.mono (by simp))
      clear hb o3 HL2 HM2 HC2 HG2 HL2a HM2a HC2a HG2a HBs HCHO
      go_wp2
      go_loopw [26] (fun i wr => ∃ j : Nat, j ≤ m ∧ i = .int .i64 (j : Int) ∧ Lnd wr ∧ Memo wr b V ∧ Cell2 wr w.heap.size (.bool false) (.int .i64 0) ∧ Cell2 wr w2.heap.size (.bool (bstK f w0 j).1) (.int .i64 ((bstK f w0 j).2 : Int)) ∧ OI wr (w2.heap.size + 1) C1 m d3 L ∧ w.grownBy wr (some b)) (fun i _ => m - (intOf i).toNat)
      case atStart => exact ⟨0, Nat.zero_le _, rfl, HL3.out, HM3.out, HC3.out, HB3.out, HO3.out, HG3.out⟩
      case round =>
        obtain ⟨j, hj, rfl, hL, hM, hC, hB, hO, hG⟩ := hrel
        have HLr := Lib.hid hL; have HMr := Lib.hid hM; have HCr := Lib.hid hC; have HBr := Lib.hid hB; have HOr := Lib.hid hO; have HGr := Lib.hid hG
        have hbz : b < wr.heap.size := hM.lt
        have hbest := HBM.out j hj
        obtain ⟨⟨q, mm⟩, hq⟩ : ∃ qm : OutP, qm = bstK f w0 j := ⟨_, rfl⟩
        rw [← hq] at hbest
        have HQ := Lib.hid hq
        simp only at hbest
        rw [← hq] at hB HBr
        simp only at hB HBr
        have b0 := hB.c0; have b1 := hB.c1; have g0 := hB.f0; have g1 := hB.f1; have bz := hB.lt
        clear hL hM hC hB hG hq
        by_cases hlt : j < m
        · obtain ⟨cb, rfl⟩ : ∃ cb, C1 = some ⟨cb, 0, none⟩ := by
            rcases hO.form with ⟨_, _, h0⟩ | ⟨g, cur, e, _⟩
            · omega
            · exact ⟨g, e⟩
          have hck := cellsGo hO j hlt
          have hjm : (j : Int) < (m : Int) := by omega
          have HBj := Lib.hid (fun w2 l m9 => HBEH.out j hlt w2 l m9)
          have hfm := HMV.out j hlt
          obtain ⟨x, hx⟩ : ∃ x, x = gi L j := ⟨_, rfl⟩
          rw [← hx] at hck HBj
          obtain ⟨⟨fq, fm⟩, hfj⟩ : ∃ o : OutP, o = f j := ⟨_, rfl⟩
          rw [← hfj] at hfm HBj
          simp only at hfm
          have HFJ := Lib.hid hfj
          clear hO hx hfj
          go_wp2_with fail
          refine (HBj.out _ HLr.out HMr.out).mono ?_
          rintro e w4 ⟨rfl, hm4, hg4⟩
          replace HLr := Lib.hid (HKp.out _ _ HLr.out hg4)
          replace HMr := Lib.hid hm4
          replace HCr := c2Gr HCr hg4 (by omega)
          replace HBr := c2Gr HBr hg4 (by omega)
          replace HOr := oiGr HOr hg4 (by omega)
          replace HGr := grTrans HGr hg4
          clear hm4 hg4 b0 b1 g0 g1 bz HBj
          have b0 := HBr.out.c0; have b1 := HBr.out.c1; have g0 := HBr.out.f0; have g1 := HBr.out.f1; have bz := HBr.out.lt
          unfold ovV
          by_cases hj0 : j = 0
          · have e0 : ((j : Int) == 0) = true := by rw [beq_iff_eq]; omega
            have HSt : Hid (bstK f w0 (j + 1) = (fq, fm)) := Lib.hid (by rw [hj0, bstK_one, HFJ.out, hj0])
            clear hj0
            go_wp2
            go_roundw
            case rel =>
              have hG9 := fun o => (grAlloc (grSet (grSet (p := ⟨w2.heap.size, 0, none⟩) HGr (by simp; omega) (.bool fq)) (p := ⟨w2.heap.size, 1, none⟩) (by simp; omega) (.int .i64 (fm : Int))) o)
              refine ⟨j + 1, by omega, by go_num, HKp.out _ _ HLw.out (hG9 _).out, memoEnd HMr (by omega) _ _ _, (cellAlloc (cellFarG HCr (by omega) _ _) _).out, ?_, ((HOr.out.setBelow (by simp) _).setBelow (by simp) _).alloc _, (hG9 _).out⟩
              rw [HSt.out]
              exact (cellAlloc (cellPut HBr _ _) _).out
            case measure => simp [intOf]; omega
          · have e0 : ((j : Int) == 0) = false := by rw [beq_eq_false_iff_ne]; omega
            have HJ0 := Lib.hid hj0
            clear hj0
            go_wp2_with fail
            have HOn := cellNew w4 (.bool fq) (.int .i64 (fm : Int)) 75
            refine (isBetter_any (fq, fm) (q, mm) _ hfm hbest).mono ?_
            obtain ⟨c, hc⟩ : ∃ c, c = betB (fq, fm) (q, mm) := ⟨_, rfl⟩
            rw [← hc]
            have HCC := Lib.hid hc
            clear hc
            rintro e w5 ⟨rfl, hb⟩
            have HMw := memoBelow (memoAlloc HMr (.cells #[.bool fq, .int .i64 (fm : Int)] 75)) hb
            have HCw := cellStep (cellAlloc HCr (.cells #[.bool fq, .int .i64 (fm : Int)] 75)) hb
            have HBw := cellStep (cellAlloc HBr (.cells #[.bool fq, .int .i64 (fm : Int)] 75)) hb
            have HOw := oiStepG (oiAllocG HOr (.cells #[.bool fq, .int .i64 (fm : Int)] 75)) hb
            have HGw := grBelow (grAlloc HGr (.cells #[.bool fq, .int .i64 (fm : Int)] 75)) hb
            replace HOn := cellStep HOn hb
            have n0 := HOn.out.c0; have n1 := HOn.out.c1; have nz := HOn.out.lt
            clear hb b0 b1 g0 g1 bz HMr HCr HBr HOr HGr
            have b0 := HBw.out.c0; have b1 := HBw.out.c1; have g0 := HBw.out.f0; have g1 := HBw.out.f1; have bz := HBw.out.lt
            cases c
            · have HSt : Hid (bstK f w0 (j + 1) = (q, mm)) := Lib.hid (by rw [bstK_no (by have := HJ0.out; omega) (by rw [← HFJ.out, ← HQ.out]; exact HCC.out.symm)]; exact HQ.out.symm)
              go_wp2
              go_roundw
              case rel =>
                refine ⟨j + 1, by omega, by go_num, HKp.out _ _ HLw.out HGw.out, HMw.out, HCw.out, ?_, HOw.out, HGw.out⟩
                rw [HSt.out]
                exact HBw.out
              case measure => simp [intOf]; omega
            · have HSt : Hid (bstK f w0 (j + 1) = (fq, fm)) := Lib.hid (by rw [bstK_yes (by rw [← HFJ.out, ← HQ.out]; exact HCC.out.symm)]; exact HFJ.out.symm)
              go_wp2
              go_roundw
              case rel =>
                have hG9 := grSet (grSet (p := ⟨w2.heap.size, 0, none⟩) HGw (by simp; omega) (.bool fq)) (p := ⟨w2.heap.size, 1, none⟩) (by simp; omega) (.int .i64 (fm : Int))
                refine ⟨j + 1, by omega, by go_num, HKp.out _ _ HLw.out hG9.out, memoPut HMw (by omega) _ _, (cellFarG HCw (by omega) _ _).out, ?_, (HOw.out.setBelow (by simp) _).setBelow (by simp) _, hG9.out⟩
                rw [HSt.out]
                exact (cellPut HBw _ _).out
              case measure => simp [intOf]; omega
        · obtain rfl : j = m := by omega
          clear hO
          go_wp2
          have HMD : Hid (Memo wr.drew b V) := Lib.hid (HMr.out.below (Below.refl _ _).drew)
          have HBD : Hid (Cell2 wr.drew w2.heap.size (.bool q) (.int .i64 (mm : Int))) := cellDrew HBr
          have HCD : Hid (Cell2 wr.drew w.heap.size (.bool false) (.int .i64 0)) := cellDrew HCr
          have HGD : Hid (w.grownBy wr.drew (some b)) := grBelow HGr (Below.refl _ _).drew
          have HLD := Lib.hid (HKp.out _ _ HLw.out HGD.out)
          have HVQ : Hid (V p = some (q, mm)) := Lib.hid (by rw [HQ.out]; exact HVP.out)
          clear HLr HMr HBr HCr HGr HOr
          go_region_held3 (fun w' => w'.cell? ⟨w2.heap.size, 0, none⟩ = some (.bool q) ∧ w'.cell? ⟨w2.heap.size, 1, none⟩ = some (.int .i64 (mm : Int)))
            (first | exact ⟨b0, b1⟩ | exact ⟨HB9.out.c0, HB9.out.c1⟩ | exact ⟨HB6.out.c0, HB6.out.c1⟩)
            (first
              | (go_at_call 85; refine (HKEY.out _ HLD.out).mono ?_; rintro e w6 ⟨rfl, hb⟩; have HM6 := memoBelow HMD hb; have HB6 := cellStep HBD hb; have HC6 := cellStep HCD hb; have HG6 := grBelow HGD hb; obtain ⟨w9, hU, hM9, hg9⟩ := put_memo HM6.out p HVQ.out; have HU := Lib.hid hU; simp only [ovV] at hU; have HM9 := Lib.hid hM9; have HB9 := c2Gr HB6 hg9 (by omega); have HC9 := c2Gr HC6 hg9 (by omega); have HG9 := grTrans HG6 hg9; clear hb hM9 hg9))
          have k0 := HC9.out.c0; have k1 := HC9.out.c1; have f0 := HC9.out.f0; have f1 := HC9.out.f1; have cz := HC9.out.lt
          clear b0 b1 g0 g1 bz
          have b0 := HB9.out.c0; have b1 := HB9.out.c1; have bz := HB9.out.lt
          have HE := cellPut HC9 (.bool q) (.int .i64 (mm : Int))
          have e0 := HE.out.c0
          have e1 := HE.out.c1
          clear HE
          go_wp2
          exact bodyPost_ret (v := .agg #[.bool q, .int .i64 (mm : Int)]) (by simp [results, Try.results57, go_sem, e0, e1]) rfl
            ⟨by rw [← HQ.out]; rfl, memoPut HM9 (by omega) _ _, (grSet (grSet HG9 (by simp) _) (by simp) _).out⟩
    · have heq : o = bstK f w0 m := by
        have := HVP.out
        rw [this] at ho
        injection ho with ho
        exact ho.symm
      have HEQ := Lib.hid heq
      clear ho heq
      obtain ⟨q, mm⟩ := o
      unfold ovV at hlk
      simp only at hlk
      have HE := fun o => cellAlloc (cellPut HC1 (.bool q) (.int .i64 (mm : Int))) o
      have e0 := fun o => (HE o).out.c0
      have e1 := fun o => (HE o).out.c1
      clear HE
      go_wp2
      exact bodyPost_ret (v := .agg #[.bool q, .int .i64 (mm : Int)]) (by simp [results, Try.results57, go_sem, e0, e1]) rfl
        ⟨by rw [← HEQ.out]; rfl, memoEnd HM1 (by omega) _ _ _, (grAlloc (grSet (grSet HG1 (by simp) _) (by simp) _) _).out⟩
end
end Go.Proofs.Ytiapbmgpjloafaa
