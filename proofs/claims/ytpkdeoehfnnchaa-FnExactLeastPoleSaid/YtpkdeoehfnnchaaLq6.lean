/- LeastPole of the program. -/
import Derived.Test.YtpkdeoehfnnchaaLq4
import Derived.Test.YtpkdeoehfnnchaaIn2
import Derived.Deep.RegionHeld3
namespace Go.Proofs.Ytpkdeoehfnnchaa
open Go Go.RowKit

def lenV : Value → Nat
  | .slice _ n _ => n
  | _ => 0
theorem Cell2.kept {w w' : World} {b : Nat} {u v : Value} {row : Option Nat} (h : Cell2 w b u v) (hg : w.grownBy w' row) (hne : row ≠ some b) : Cell2 w' b u v := by
  have e : w'.heap[b]? = w.heap[b]? := hg.block b h.lt (fun e => hne e.symm)
  exact ⟨(World.cell?_of_block (w := w) (a := ⟨b, 0, none⟩) e).trans h.c0, (World.cell?_of_block (w := w) (a := ⟨b, 1, none⟩) e).trans h.c1, (World.frozen?_of_block (w := w) (a := ⟨b, 0, none⟩) e).trans h.f0, (World.frozen?_of_block (w := w) (a := ⟨b, 1, none⟩) e).trans h.f1, Nat.lt_of_lt_of_le h.lt hg.size⟩
/-- the loop's state: k rungs are made, what is left stands in block b -/
structure RL (w wr : World) (K n : Nat) (P0 P1 : Value) (zs us : List Int) (k : Nat) (A6 : Option Addr) (c6 b : Nat) (P : Option Addr) (cP : Nat) (Q : Option Addr) (cQ : Nat) : Prop where
  bel : Below w.heap.size w wr
  res : Cell2 wr (w.heap.size + 1) (.int .i64 0) (.slice none 0 0)
  box : Cell2 wr w.heap.size P0 P1
  own : OI wr K A6 k c6 (lpK zs us k)
  var : Cell2 wr b (.slice P n cP) (.slice Q n cQ)
  rp : RI wr P n (stK zs us k).1
  rq : RI wr Q n (stK zs us k).2
  dp : ∀ x, blk P = some x → blk A6 ≠ some x
  dq : ∀ x, blk Q = some x → blk A6 ≠ some x
  db : blk A6 ≠ some b
  kk : w.heap.size + 2 ≤ K
  kr : K ≤ wr.heap.size
  wb : w.heap.size + 2 ≤ b
theorem RL.step {w wr wj : World} {K n : Nat} {P0 P1 : Value} {zs us : List Int} {k : Nat} {A6 : Option Addr} {c6 b : Nat} {P : Option Addr} {cP : Nat} {Q : Option Addr} {cQ : Nat} (h : Hid (RL w wr K n P0 P1 zs us k A6 c6 b P cP Q cQ)) (hb : Below wr.heap.size wr wj) : Hid (RL w wj K n P0 P1 zs us k A6 c6 b P cP Q cQ) :=
  ⟨h.out.bel.trans (hb.mono h.out.bel.size), (cellStep (Lib.hid h.out.res) hb).out, (cellStep (Lib.hid h.out.box) hb).out, h.out.own.below hb, (cellStep (Lib.hid h.out.var) hb).out, h.out.rp.below hb (Nat.le_refl _), h.out.rq.below hb (Nat.le_refl _), h.out.dp, h.out.dq, h.out.db, h.out.kk, Nat.le_trans h.out.kr hb.size, h.out.wb⟩
theorem st_next {zs us : List Int} {k n r : Nat} (hz : zs.length = n) (hr : fdI (stK zs us k).1 (stK zs us k).2 = (r : Int)) :
    (stK zs us (k + 1)).1 = topE (stK zs us k).1 r (nxtR n r) ∧ (stK zs us (k + 1)).2 = topW (stK zs us k).2 r (nxtR n r) (wndR n r) ∧ lpK zs us (k + 1) = lpK zs us k ++ [(r : Int)] := by
  have hl := (st_len zs us k).1
  refine ⟨?_, ?_, ?_⟩
  · show lfE _ _ = _
    unfold lfE
    rw [hr, Int.toNat_natCast, hl, hz]
  · show lfW _ _ = _
    unfold lfW
    rw [hr, Int.toNat_natCast, hl, hz]
  · show lpK zs us k ++ [fdI _ _] = _
    rw [hr]
theorem riOff {w : World} {A : Option Addr} {n k : Nat} {zs : List Int} (h : RI w A n zs) (hne : ∀ x, blk A = some x → x ≠ k) (j : Nat) (v : Value) : RI (w.setCell ⟨k, j, none⟩ v) A n zs :=
  h.kept (row := some k) (grown_setCell (g := k) (grown_refl w _) (.inl rfl) _) (fun x hx e => hne x hx (Option.some.inj e).symm)
theorem trn_ends {zs us : List Int} (h : trn zs us = true) : ∀ j, j < zs.length → -20 ≤ gi us j ∧ gi us j ≤ 20 := fun j hj => (TOk.of h).ur j hj
theorem lp_false {zs us : List Int} (h : lpQ zs us = false) : lpN zs us = 0 ∧ lpZ zs us = [] := by unfold lpN lpZ; rw [h]; exact ⟨rfl, rfl⟩
theorem lp_true {zs us : List Int} (h : lpQ zs us = true) : lpN zs us = (zs.length : Int) ∧ lpZ zs us = lpK zs us (invT zs us) ∧ trn zs us = true ∧ invT zs us ≤ 60 := by
  have h2 := h
  unfold lpQ at h2
  rw [Bool.and_eq_true, decide_eq_true_iff] at h2
  unfold lpN lpZ
  rw [h]
  exact ⟨rfl, rfl, h2.1, h2.2⟩

set_option maxRecDepth 100000 in
set_option maxHeartbeats 2000000 in
theorem iLeastPole_no (A : Option Addr) (n c : Nat) (zs : List Int) (E : Option Addr) (m d : Nat) (us : List Int) (w : World) (h : RI w A n zs) (g : RI w E m us) (hn : n ≤ 1048576) (hm : m ≤ 1048576) (hq : lpQ zs us = false) :
    Calls Try.prog 10 #[.agg #[.slice A n c, .slice E m d]] w (FreshLB w (lpN zs us) (lpZ zs us).length (lpZ zs us) (lpQ zs us)) := by
  have R1 : Hid (RB w w.heap.size A n zs) := RB.of_ri h
  have R2 : Hid (RB w w.heap.size E m us) := RB.of_ri g
  have HIN : Hid (∀ wi : World, RI wi A n zs → RI wi E m us → Calls Try.prog 22 #[.agg #[.slice A n c, .slice E m d]] wi (RetIB (invN zs us) (trn zs us) wi)) := fun wi r1 r2 => iPoleInversions_raw A n c zs E m d us wi r1 r2 hn hm
  rw [hq, (lp_false hq).1, (lp_false hq).2]
  have hx : trn zs us = true → (60 : Int) < invN zs us := by
    intro ht
    unfold lpQ at hq
    rw [ht] at hq
    unfold invN
    rw [if_pos ht]
    simp at hq
    omega
  obtain ⟨x, hX⟩ : ∃ x, x = invN zs us := ⟨_, rfl⟩
  rw [← hX] at HIN hx
  rcases ht : trn zs us with _ | _
  all_goals
    rw [ht] at HIN hx
    first | (have hx60 := hx rfl; clear hx) | clear hx
    clear ht hq hX h g
    go_enter Try.func10, Try.ntmps10
    go_wp2_with fail
    have HB := belAlloc (belAlloc (belRefl (w := w)) (.cells #[.slice A n c, .slice E m d] 30)) (.cells #[.int .i64 0, .slice none 0 0] 27)
    have HC := cellNew (w.alloc (.cells #[.slice A n c, .slice E m d] 30)) (.int .i64 0) (.slice none 0 0) 27
    refine (HIN.out _ (rbK R1 HB.out) (rbK R2 HB.out)).mono ?_
    rintro e w1 ⟨rfl, hb⟩
    replace HB := belStep HB hb
    replace HC := cellStep HC hb
    simp only [World.size_alloc] at HC
    have k0 := HC.out.c0; have k1 := HC.out.c1; have f0 := HC.out.f0; have f1 := HC.out.f1; have hz := HC.out.lt
    clear hb
    go_wp2
    exact bodyPost_ret (v := .tuple #[.agg #[.int .i64 0, .slice none 0 0], .bool false]) (by simp [results, Try.results10, go_sem, k0, k1]) rfl ⟨none, 0, rfl, OI.none_ _ _, (HB.out.setCell (by simp) _).setCell (by simp) _⟩

set_option maxRecDepth 100000 in
set_option maxHeartbeats 2000000 in
theorem iLeastPole_yes (A : Option Addr) (n c : Nat) (zs : List Int) (E : Option Addr) (d : Nat) (us : List Int) (w : World) (h : RI w A n zs) (g : RI w E n us) (hq : lpQ zs us = true) :
    Calls Try.prog 10 #[.agg #[.slice A n c, .slice E n d]] w (FreshLB w (lpN zs us) (lpZ zs us).length (lpZ zs us) (lpQ zs us)) := by
  have R1 : Hid (RB w w.heap.size A n zs) := RB.of_ri h
  have R2 : Hid (RB w w.heap.size E n us) := RB.of_ri g
  have hzl := h.1; have hul := g.1
  obtain ⟨eN, eZ, ht, hv⟩ := lp_true hq
  have ok := TOk.of ht
  have n3 := ok.n3; have n8 := ok.n8
  have hn3 : 3 ≤ n ∧ n ≤ 8 := by omega
  have HIN : Hid (∀ wi : World, RI wi A n zs → RI wi E n us → Calls Try.prog 22 #[.agg #[.slice A n c, .slice E n d]] wi (RetIB (invT zs us : Int) true wi)) := fun wi r1 r2 => by
    have := iPoleInversions_raw A n c zs E n d us wi r1 r2 (by omega) (by omega)
    rwa [show invN zs us = (invT zs us : Int) by unfold invN; rw [if_pos ht], ht] at this
  have HS : Hid (∀ k, k ≤ invT zs us → trn (stK zs us k).1 (stK zs us k).2 = true) := fun k hk => (st_inv ht hv k hk).1
  have HD : Hid (∀ k, k < invT zs us → dscK (stK zs us k).1 (stK zs us k).2 (stK zs us k).1.length ≠ []) := fun k hk => st_some ht hv hk
  rw [hq, eN, eZ, lpK_len, hzl]
  obtain ⟨I, hI⟩ : ∃ I, I = invT zs us := ⟨_, rfl⟩
  rw [← hI] at HIN HS HD hv ⊢
  have hmk := run_make_row' (P := Try.prog) 22 3 (.int .i64 0) 8 Try.underlying22 infoInt rfl .i64 .i64 0 (by omega) (by omega)
  obtain ⟨i0, hi0, hz0, hz1, hz2⟩ := info_parts infoInt
  have i60 : (I : Int) ≤ 60 := by omega
  have dA : Hid (∀ x, blk A = some x → x < w.heap.size) := fun x hx => by
    obtain ⟨b', o', e, hb', _⟩ := h.2 (by omega)
    rw [e] at hx
    have h1 : b' = x := by simpa [Go.Proofs.Ytpkdeoehfnnchaa.blk] using hx
    omega
  have dE : Hid (∀ x, blk E = some x → x < w.heap.size) := fun x hx => by
    obtain ⟨b', o', e, hb', _⟩ := g.2 (by omega)
    rw [e] at hx
    have h1 : b' = x := by simpa [Go.Proofs.Ytpkdeoehfnnchaa.blk] using hx
    omega
  have HZL := Lib.hid hzl; have HUL := Lib.hid hul
  clear h g hq eN eZ ht ok n3 n8 hzl hul hI
  go_enter Try.func10, Try.ntmps10
  go_wp2_with fail
  have HB := belAlloc (belAlloc (belRefl (w := w)) (.cells #[.slice A n c, .slice E n d] 30)) (.cells #[.int .i64 0, .slice none 0 0] 27)
  have HC := cellNew (w.alloc (.cells #[.slice A n c, .slice E n d] 30)) (.int .i64 0) (.slice none 0 0) 27
  have HP := cellAlloc (cellNew w (.slice A n c) (.slice E n d) 30) (.cells #[.int .i64 0, .slice none 0 0] 27)
  refine (HIN.out _ (rbK R1 HB.out) (rbK R2 HB.out)).mono ?_
  rintro e w1 ⟨rfl, hb⟩
  replace HB := belStep HB hb
  replace HC := cellStep HC hb
  replace HP := cellStep HP hb
  simp only [World.size_alloc] at HC
  have hK : w.heap.size + 2 ≤ w1.heap.size := by have := HC.out.lt; omega
  have HK := Lib.hid hK
  clear hb hK
  go_wp2_with (at_make; go_must (refine wpList_make_own _ rfl _ _ 22 rfl w1.heap.size 3 i0 (.int .i64 0) 1 Try.underlying22 hi0 hz0 hz1 _ _ _ I rfl rfl (by omega) (by rw [hz2]; omega) (by unfold maxLen; omega) (Nat.le_refl _) ?_); intro w2 ho2 hg2; have hb2 : Below w1.heap.size w1 w2 := ⟨hg2.os, hg2.tape, hg2.output, hg2.size, fun k hk => hg2.block k hk (by simp)⟩; have HO : Hid (OI w2 w1.heap.size (some ⟨w1.heap.size, 0, none⟩) 0 I []) := ⟨rfl, ho2⟩; replace HB := belStep HB hb2; replace HC := cellStep HC hb2; replace HP := cellStep HP hb2; have p0 := HP.out.c0; have p1 := HP.out.c1; have hw12 : w1.heap.size < w2.heap.size := (HO.out.blk _ rfl).2; clear ho2 hg2 hb2)
  go_loopw [6, 7] (fun s6 s7 wr => ∃ (k : Nat) (A6 : Option Addr) (c6 b7 : Nat) (P : Option Addr) (cP : Nat) (Q : Option Addr) (cQ : Nat), k ≤ I ∧ s6 = .slice A6 k c6 ∧ s7 = .pointer (some ⟨b7, 0, none⟩) ∧ RL w wr w1.heap.size n (.slice A n c) (.slice E n d) zs us k A6 c6 b7 P cP Q cQ) (fun s6 _ _ => I - lenV s6)
  case atStart =>
    refine ⟨0, _, _, _, A, c, E, d, Nat.zero_le _, rfl, rfl, (belAlloc HB _).out, (cellAlloc HC _).out, (cellAlloc HP _).out, HO.out.alloc _, (cellNew w2 _ _ 30).out, rbK R1 (belAlloc HB _).out, rbK R2 (belAlloc HB _).out, fun x hx e => ?_, fun x hx e => ?_, fun e => ?_, HK.out, by simp; omega, by have := HK.out; omega⟩
    · have h1 := dA.out x hx
      have h2 : w1.heap.size = x := by simpa [Go.Proofs.Ytpkdeoehfnnchaa.blk] using e
      have := HK.out; omega
    · have h1 := dE.out x hx
      have h2 : w1.heap.size = x := by simpa [Go.Proofs.Ytpkdeoehfnnchaa.blk] using e
      have := HK.out; omega
    · have h2 : w1.heap.size = w2.heap.size := by simpa [Go.Proofs.Ytpkdeoehfnnchaa.blk] using e
      omega
  case round =>
    obtain ⟨k, A6, c6, b7, P, cP, Q, cQ, hk, rfl, rfl, hT⟩ := hrel
    have T := Lib.hid hT
    clear hT
    by_cases hlt : k < I
    · have i1 : (k : Int) < (I : Int) := by omega
      have ht := HS.out k (by omega)
      have ht1 := HS.out (k + 1) (by omega)
      have hne := HD.out k hlt
      have hzk := (st_len zs us k).1; have huk := (st_len zs us k).2
      rw [HZL.out] at hzk; rw [HUL.out] at huk
      obtain ⟨r, hr, hrn, _⟩ := fd_some hne
      obtain ⟨e1, e2, e3⟩ := st_next (n := n) HZL.out hr
      rw [e1, e2] at ht1
      have hu := trn_ends ht
      have hL0 : gi (dscK (stK zs us k).1 (stK zs us k).2 (stK zs us k).1.length) 0 = (r : Int) := hr
      have hdn : dscN (stK zs us k).1 (stK zs us k).2 = dscK (stK zs us k).1 (stK zs us k).2 (stK zs us k).1.length := by unfold dscN; rw [if_pos ht]
      have hLn := List.length_pos_iff.2 hne
      have hL8 := dscK_len (stK zs us k).1 (stK zs us k).2 (stK zs us k).1.length
      have hrp := T.out.rp; have hrq := T.out.rq
      obtain ⟨Zk, hZk⟩ : ∃ Z, Z = (stK zs us k).1 := ⟨_, rfl⟩
      obtain ⟨Uk, hUk⟩ : ∃ Z, Z = (stK zs us k).2 := ⟨_, rfl⟩
      rw [← hZk] at hrp hzk e1 ht1 hu hL0 hdn hLn hL8 ht hrn
      rw [← hUk] at hrq huk e2 ht1 hu hL0 hdn hLn hL8 ht
      rw [hzk] at hrn hu hL0 hdn hLn hL8
      have HBL : Hid (∀ wi : World, RI wi P n Zk → RI wi Q n Uk → Calls Try.prog 32 #[.agg #[.slice P n cP, .slice Q n cQ], .int .i64 (r : Int)] wi (LeftQ wi n (topE Zk r (nxtR n r)) (topW Uk r (nxtR n r) (wndR n r)))) :=
        fun wi r1 r2 => below_any P n cP Zk Q cQ Uk r wi r1 r2 hn3 hrn hu ht1
      have HDS : Hid (∀ wi : World, RI wi P n Zk → RI wi Q n Uk → Calls Try.prog 17 #[.agg #[.slice P n cP, .slice Q n cQ]] wi (FreshIB wi (dscK Zk Uk n).length (dscK Zk Uk n) true)) := fun wi r1 r2 => by
        have := iPoleDescents_raw P n cP Zk Q n cQ Uk wi r1 r2 (by omega) (by omega)
        rwa [hdn, ht] at this
      have E1 := Lib.hid e1; have E2 := Lib.hid e2; have E3 := Lib.hid e3
      have HRP0 := Lib.hid hrp; have HRQ0 := Lib.hid hrq
      obtain ⟨L, hL⟩ : ∃ L, L = dscK Zk Uk n := ⟨_, rfl⟩
      rw [← hL] at HDS hL0 hLn hL8
      obtain ⟨M, hM⟩ : ∃ M, M = L.length := ⟨_, rfl⟩
      rw [← hM] at HDS hLn hL8
      clear ht ht1 hne hzk huk hr hu hdn hZk hUk hL hM e1 e2 e3 hrp hrq
      have q0 := T.out.var.c0; have q1 := T.out.var.c1
      go_wp2_with fail
      refine (HDS.out _ HRP0.out HRQ0.out).mono ?_
      rintro e wx ⟨X, cX, rfl, ho, hb⟩
      obtain ⟨gx, rfl, hgx1, hgx2⟩ := ownBlk ho hLn
      have x0 : wx.cell? ⟨gx, 0, none⟩ = some (.int .i64 (r : Int)) := by
        obtain ⟨b', o', e, _, hc⟩ := ho.ri.cell hLn
        injection e with e; injection e with e1 e2 e3
        subst e1 e2
        have h2 := hc 0 hLn
        rw [hL0] at h2
        exact h2
      have hA6 : ∀ x, blk A6 = some x → w1.heap.size ≤ x ∧ x < wr.heap.size := T.out.own.blk
      have T1 := RL.step T hb
      have HRP1 : Hid (RI wx P n Zk) := HRP0.out.below hb (Nat.le_refl _)
      have HRQ1 : Hid (RI wx Q n Uk) := HRQ0.out.below hb (Nat.le_refl _)
      have i2 : (0 : Int) < (M : Int) := by omega
      have HO1 := Lib.hid T1.out.own
      have hkx := T1.out.kr
      have hb7 := T.out.var.lt
      clear q0 q1 hb ho T HRP0 HRQ0
      go_wp2_with (at_builtin; refine wpList_append_int _ rfl _ _ rfl w1.heap.size A6 k c6 _ (r : Int) wx.heap.size rfl rfl (HO1.out.alloc _) (by simp) (by omega) (by simp; omega) ?_; intro A2 c2 w8 ho8 hg8)
      have HRP8 : Hid (RI w8 P n Zk) := (HRP1.out.alloc _).kept hg8 T1.out.dp
      have HRQ8 : Hid (RI w8 Q n Uk) := (HRQ1.out.alloc _).kept hg8 T1.out.dq
      have V8 : Hid (Cell2 w8 b7 (.slice P n cP) (.slice Q n cQ)) := Cell2.kept (cellAlloc (Lib.hid T1.out.var) _).out hg8 T1.out.db
      have C8 : Hid (Cell2 w8 (w.heap.size + 1) (.int .i64 0) (.slice none 0 0)) := Cell2.kept (cellAlloc (Lib.hid T1.out.res) _).out hg8 (fun e => by have h1 := hA6 _ e; have h2 := HK.out; omega)
      have P8 : Hid (Cell2 w8 w.heap.size (.slice A n c) (.slice E n d)) := Cell2.kept (cellAlloc (Lib.hid T1.out.box) _).out hg8 (fun e => by have h1 := hA6 _ e; have h2 := HK.out; omega)
      have B8 : Hid (Below w.heap.size w w8) := Lib.hid ((belAlloc (Lib.hid T1.out.bel) _).out.trans (Below.of_grown hg8 (fun x hx => by have h1 := hA6 x hx; have h2 := HK.out; omega) (by have h1 := T1.out.kr; have h2 := HK.out; simp; omega)))
      have hgx8 : gx < w8.heap.size := by have h1 := hg8.size; simp at h1; omega
      have X8 : w8.cell? ⟨gx, 0, none⟩ = some (.int .i64 (r : Int)) := by
        have e8 : w8.heap[gx]? = (wx.alloc (.cells #[.int .i64 (r : Int)] 3)).heap[gx]? := hg8.block gx (by simp; omega) (fun e => by have h1 := hA6 gx e.symm; omega)
        rw [World.cell?_of_block (a := ⟨gx, 0, none⟩) e8]
        exact ((Below.refl wx.heap.size wx).alloc (Nat.le_refl _) _).cell (p := ⟨gx, 0, none⟩) hgx2 |>.trans x0
      have HO8 := Lib.hid ho8
      have hK8 : w1.heap.size ≤ w8.heap.size := by have h1 := hg8.size; simp at h1; omega
      have hwb := T1.out.wb; have hkk := T1.out.kk
      have hgb : b7 ≠ gx := by have h1 := hb7; omega
      have HN8d : Below w8.heap.size w8 w8.drew := drewBel w8
      clear ho8 hg8 x0 hA6 T1 HRP1 HRQ1 HO1 hkx hL0
      go_upto_region 9 with fail
      refine wp_region_held_drew (S := (fun w' => w'.cell? ⟨gx, 0, none⟩ = some (.int .i64 (r : Int)))) (by kernel_rfl) ?_ (fun hHeld => ?_)
      · exact X8
      refine wpAnyH_take (i := 1) (v := ?_) rfl (by kernel_rfl) (by kernel_rfl) (by kernel_rfl) (fun _ _ _ h => h) (Or.inl ⟨by kernel_rfl, ?_⟩) hHeld ?_
      rotate_left
      · (intro w hSw; (try dsimp only at hSw); (first | (go_simp; done) | (go_simp; with_reducible rfl)))
      try simp only [Act.put, List.getElem_toArray, List.getElem_cons_zero, List.getElem_cons_succ, List.setIfInBounds_toArray, List.set_cons_zero, List.set_cons_succ]
      refine wpAnyH_take (i := 2) (v := ?_) rfl (by kernel_rfl) (by kernel_rfl) (by kernel_rfl) (fun _ _ _ h => h) (Or.inl ⟨by kernel_rfl, ?_⟩) hHeld ?_
      rotate_left
      · (intro w hSw; (try dsimp only at hSw); (first | (go_simp; done) | (go_simp; with_reducible rfl)))
      try simp only [Act.put, List.getElem_toArray, List.getElem_cons_zero, List.getElem_cons_succ, List.setIfInBounds_toArray, List.set_cons_zero, List.set_cons_succ]
      refine wpAnyH_take (i := 3) (v := ?_) rfl (by kernel_rfl) (by kernel_rfl) (by kernel_rfl) (fun _ _ _ h => h) (Or.inl ⟨by kernel_rfl, ?_⟩) hHeld ?_
      rotate_left
      · (intro w hSw; (try dsimp only at hSw); (first | (go_simp; done) | (go_simp; with_reducible rfl)))
      try simp only [Act.put, List.getElem_toArray, List.getElem_cons_zero, List.getElem_cons_succ, List.setIfInBounds_toArray, List.set_cons_zero, List.set_cons_succ]
      refine wpAnyH_ready (rs := [0]) (by kernel_rfl) (by simp) ?_
      refine AllReadyH.cons rfl (fun K hK => ?_) AllReadyH.nil
      simp only [List.getElem_toArray, List.getElem_cons_zero]
      have v0 := V8.out.c0; have v1 := V8.out.c1
      go_simp
      clear hHeld
      refine hK.out _ _ ?_ (fun hHeld => ?_)
      · exact X8
      clear hK K
      try simp only [Act.put, List.getElem_toArray, List.getElem_cons_zero, List.getElem_cons_succ, List.setIfInBounds_toArray, List.set_cons_zero, List.set_cons_succ]
      refine wpAnyH_ready (rs := [4]) (by kernel_rfl) (by simp) ?_
      refine AllReadyH.cons rfl (fun K hK => ?_) AllReadyH.nil
      simp only [List.getElem_toArray, List.getElem_cons_zero, List.getElem_cons_succ]
      go_simp
      (go_at_call 32; refine (HBL.out _ (RI.below HRP8.out HN8d (Nat.le_refl _)) (RI.below HRQ8.out HN8d (Nat.le_refl _))).mono ?_; rintro e w9 ⟨P', cP', Q', cQ', rfl, rp, rq, lp, lq, hb⟩; have HN9 : Hid (Below w8.heap.size w8 w9) := belStep (Lib.hid HN8d) hb; have V9 := cellStep V8 HN9.out; have X9 := (HN9.out.cell (p := ⟨gx, 0, none⟩) hgx8).trans X8; have HRP := Lib.hid rp; have HRQ := Lib.hid rq; have HLP := Lib.hid lp; have HLQ := Lib.hid lq; clear hb rp rq lp lq)
      clear hHeld
      refine hK.out _ _ ?_ (fun hHeld => ?_)
      · exact X9
      clear hK K
      try simp only [Act.put, List.getElem_toArray, List.getElem_cons_zero, List.getElem_cons_succ, List.setIfInBounds_toArray, List.set_cons_zero, List.set_cons_succ]
      refine wpAnyH_ready (rs := [5]) (by kernel_rfl) (by simp) ?_
      refine AllReadyH.cons rfl (fun K hK => ?_) AllReadyH.nil
      simp only [List.getElem_toArray, List.getElem_cons_zero, List.getElem_cons_succ]
      have k0 := V9.out.c0; have k1 := V9.out.c1; have kf0 := V9.out.f0; have kf1 := V9.out.f1; have kz := V9.out.lt
      go_simp
      clear hHeld
      refine hK.out _ _ ?_ (fun hHeld => ?_)
      · (show World.cell? _ _ = _; rw [World.cell?_setCell_other _ _ _ _ (by simp [hgb]), World.cell?_setCell_other _ _ _ _ (by simp [hgb])]; exact X9)
      clear hK K
      try simp only [Act.put, List.getElem_toArray, List.getElem_cons_zero, List.getElem_cons_succ, List.setIfInBounds_toArray, List.set_cons_zero, List.set_cons_succ]
      refine wpAnyH_done (by kernel_rfl) ?_ _
      clear hHeld
      obtain ⟨g2, rfl, hg2a, hg2b⟩ := ownBlk HO8.out (Nat.succ_pos _)
      have hg7 : g2 ≠ b7 := by
        intro e
        obtain ⟨b', o', e', _, hc⟩ := HO8.out.ri.cell (Nat.succ_pos _)
        injection e' with e'; injection e' with e1 e2 e3
        subst e1 e2
        have h1 := hc 0 (Nat.succ_pos _)
        rw [e] at h1
        have h2 := V8.out.c0
        simp at h1 h2
        rw [h1] at h2
        cases h2
      have V10 := Lib.hid (cellSet2 V9.out (.slice P' n cP') (.slice Q' n cQ'))
      have O10 := Lib.hid (oiOff (oiOff (HO8.out.below HN9.out) hg7 0 (.slice P' n cP')) hg7 1 (.slice Q' n cQ'))
      have n1 : b7 ≠ w.heap.size + 1 := by omega
      have n0 : b7 ≠ w.heap.size := by omega
      have C10 := Lib.hid (cellFar (cellFar (cellStep C8 HN9.out).out ⟨b7, 0, none⟩ n1 (.slice P' n cP')) ⟨b7, 1, none⟩ n1 (.slice Q' n cQ'))
      have P10 := Lib.hid (cellFar (cellFar (cellStep P8 HN9.out).out ⟨b7, 0, none⟩ n0 (.slice P' n cP')) ⟨b7, 1, none⟩ n0 (.slice Q' n cQ'))
      have hb78 : b7 < w8.heap.size := V8.out.lt
      have RP10 := Lib.hid (riOff (riOff HRP.out (k := b7) (fun x hx e => by have h1 : w8.heap.size ≤ x := HLP.out x hx; omega) 0 (.slice P' n cP')) (k := b7) (fun x hx e => by have h1 : w8.heap.size ≤ x := HLP.out x hx; omega) 1 (.slice Q' n cQ'))
      have RQ10 := Lib.hid (riOff (riOff HRQ.out (k := b7) (fun x hx e => by have h1 : w8.heap.size ≤ x := HLQ.out x hx; omega) 0 (.slice P' n cP')) (k := b7) (fun x hx e => by have h1 : w8.heap.size ≤ x := HLQ.out x hx; omega) 1 (.slice Q' n cQ'))
      have B10 := Lib.hid (((B8.out.trans (HN9.out.mono B8.out.size)).setCell (p := ⟨b7, 0, none⟩) (by show w.heap.size ≤ b7; omega) (.slice P' n cP')).setCell (p := ⟨b7, 1, none⟩) (by show w.heap.size ≤ b7; omega) (.slice Q' n cQ'))
      have S10 : ((w9.setCell ⟨b7, 0, none⟩ (.slice P' n cP')).setCell ⟨b7, 1, none⟩ (.slice Q' n cQ')).heap.size = w9.heap.size := by simp
      have HLP8 : Hid (∀ x, blk P' = some x → g2 ≠ x) := fun x hx e => by have h1 : w8.heap.size ≤ x := HLP.out x hx; omega
      have HLQ8 : Hid (∀ x, blk Q' = some x → g2 ≠ x) := fun x hx e => by have h1 : w8.heap.size ≤ x := HLQ.out x hx; omega
      have hs9 := HN9.out.size
      have HS10 := Lib.hid S10
      clear S10
      obtain ⟨wy, hwy⟩ : ∃ W, W = (w9.setCell ⟨b7, 0, none⟩ (.slice P' n cP')).setCell ⟨b7, 1, none⟩ (.slice Q' n cQ') := ⟨_, rfl⟩
      rw [← hwy] at V10 O10 C10 P10 RP10 RQ10 B10 HS10 ⊢
      have v0 := V10.out.c0; have v1 := V10.out.c1
      clear hwy V8 V9 C8 P8 HRP8 HRQ8 HRP HRQ HLP HLQ B8 HO8 HBL HDS X8 X9 HN8d HN9
      go_wp2
      go_roundw
      case rel =>
        have S10 := HS10.out
        refine ⟨k + 1, some ⟨g2, 0, none⟩, c2, wy.heap.size, P', cP', Q', cQ', by omega, rfl, rfl, (belAlloc B10 _).out, (cellAlloc C10 _).out, (cellAlloc P10 _).out, by rw [E3.out]; exact O10.out.alloc _, (cellNew wy _ _ 30).out, by rw [E1.out]; exact RP10.out.alloc _, by rw [E2.out]; exact RQ10.out.alloc _, fun x hx e => ?_, fun x hx e => ?_, fun e => ?_, HK.out, by simp; omega, by omega⟩
        · exact HLP8.out x hx (by simpa [Go.Proofs.Ytpkdeoehfnnchaa.blk] using e)
        · exact HLQ8.out x hx (by simpa [Go.Proofs.Ytpkdeoehfnnchaa.blk] using e)
        · have h1 : g2 = wy.heap.size := by simpa [Go.Proofs.Ytpkdeoehfnnchaa.blk] using e
          omega
      case measure => simp [lenV]; omega
    · obtain rfl : k = I := by omega
      have q0 := T.out.box.c0; have q1 := T.out.box.c1
      have s0 := T.out.res.c0; have s1 := T.out.res.c1; have f0 := T.out.res.f0; have f1 := T.out.res.f1; have hz := T.out.res.lt
      have hk2 := T.out.kk
      go_wp2
      exact bodyPost_ret (v := .tuple #[.agg #[.int .i64 (n : Int), .slice A6 k c6], .bool true]) (by simp [results, Try.results10, go_sem, s0, s1]) rfl
        ⟨A6, c6, rfl, (((T.out.own.setBelow (p := ⟨w.heap.size + 1, 0, none⟩) (by show w.heap.size + 1 < w1.heap.size; omega) _).setBelow (p := ⟨w.heap.size + 1, 1, none⟩) (by show w.heap.size + 1 < w1.heap.size; omega) _).mono (by omega)), (T.out.bel.setCell (by simp) _).setCell (by simp) _⟩
end Go.Proofs.Ytpkdeoehfnnchaa
