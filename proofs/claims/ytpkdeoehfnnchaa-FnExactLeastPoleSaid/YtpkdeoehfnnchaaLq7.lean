/- LeastPole of the model. -/
import Derived.Test.YtpkdeoehfnnchaaLq6
import Derived.Test.YtpkdeoehfnnchaaApS
import Derived.Test.YtpkdeoehfnnchaaTm1
import Derived.Deep.CutRange
namespace Go.Proofs.Ytpkdeoehfnnchaa
open Go Go.RowKit

/-- the model's loop: k rungs are made, what is left stands in the argument's box -/
structure RM (w wr : World) (K n b4 : Nat) (Zk Uk ls : List Int) (k : Nat) (A6 : Option Addr) (c6 : Nat) (P : Option Addr) (cP : Nat) (Q : Option Addr) (cQ : Nat) : Prop where
  bel : Below w.heap.size w wr
  res : Cell2 wr (w.heap.size + 1) (.int .i64 0) (.slice none 0 0)
  box : Cell2 wr w.heap.size (.slice P n cP) (.slice Q n cQ)
  var : Cell2 wr b4 (.int .i64 (n : Int)) (.slice A6 k c6)
  own : OI wr K A6 k c6 ls
  rp : RI wr P n Zk
  rq : RI wr Q n Uk
  dp : ∀ x, blk P = some x → blk A6 ≠ some x
  dq : ∀ x, blk Q = some x → blk A6 ≠ some x
  db : blk A6 ≠ some b4
  kk : w.heap.size + 2 ≤ K
  kr : K ≤ wr.heap.size
  wb : w.heap.size + 2 ≤ b4
  pb : ∀ x, blk P = some x → x ≠ b4
  qb : ∀ x, blk Q = some x → x ≠ b4
theorem cellSnd {w : World} {b : Nat} {u v : Value} (h : Cell2 w b u v) (v' : Value) : Cell2 (w.setCell ⟨b, 1, none⟩ v') b u v' :=
  ⟨by rw [World.cell?_setCell_other _ _ _ _ (by simp)]; exact h.c0, World.cell?_setCell_same _ _ _ h.c1, by simpa [go_sem] using h.f0, by simpa [go_sem] using h.f1, by simpa [World.setCell] using h.lt⟩
theorem RM.step {w wr wj : World} {K n b4 : Nat} {Zk Uk ls : List Int} {k : Nat} {A6 : Option Addr} {c6 : Nat} {P : Option Addr} {cP : Nat} {Q : Option Addr} {cQ : Nat} (h : Hid (RM w wr K n b4 Zk Uk ls k A6 c6 P cP Q cQ)) (hb : Below wr.heap.size wr wj) : Hid (RM w wj K n b4 Zk Uk ls k A6 c6 P cP Q cQ) :=
  ⟨h.out.bel.trans (hb.mono h.out.bel.size), (cellStep (Lib.hid h.out.res) hb).out, (cellStep (Lib.hid h.out.box) hb).out, (cellStep (Lib.hid h.out.var) hb).out, h.out.own.below hb, h.out.rp.below hb (Nat.le_refl _), h.out.rq.below hb (Nat.le_refl _), h.out.dp, h.out.dq, h.out.db, h.out.kk, Nat.le_trans h.out.kr hb.size, h.out.wb, h.out.pb, h.out.qb⟩
theorem riBlk {w : World} {A : Option Addr} {n : Nat} {zs : List Int} (h : RI w A n zs) (hn : 0 < n) : ∀ x, blk A = some x → x < w.heap.size := fun x hx => by
  obtain ⟨b', o', e, hb', _⟩ := h.2 hn
  rw [e] at hx
  have h1 : b' = x := by simpa [Go.Proofs.Ytpkdeoehfnnchaa.blk] using hx
  omega

set_option maxRecDepth 100000 in
set_option maxHeartbeats 2000000 in
theorem sLeastPole_no (A : Option Addr) (n c : Nat) (zs : List Int) (E : Option Addr) (m d : Nat) (us : List Int) (w : World) (h : RI w A n zs) (g : RI w E m us) (hn : n ≤ 1048576) (hm : m ≤ 1048576) (hnc : n ≤ c) (hq : lpQ zs us = false) :
    Calls Try.prog 8 #[.agg #[.slice A n c, .slice E m d]] w (FreshLB w (lpN zs us) (lpZ zs us).length (lpZ zs us) (lpQ zs us)) := by
  have R1 : Hid (RB w w.heap.size A n zs) := RB.of_ri h
  have R2 : Hid (RB w w.heap.size E m us) := RB.of_ri g
  have HTU : Hid (∀ wi : World, RI wi A n zs → RI wi E m us → Calls Try.prog 27 #[.agg #[.slice A n c, .slice E m d]] wi (RetB (trn zs us) wi)) := fun wi r1 r2 => poTurned_any A n c zs E m d us wi r1 r2 hn hm hnc
  rw [hq, (lp_false hq).1, (lp_false hq).2]
  rcases ht : trn zs us with _ | _
  · rw [ht] at HTU
    clear ht hq h g
    go_enter Try.func8, Try.ntmps8
    go_wp2_with fail
    have HB := belAlloc (belAlloc (belRefl (w := w)) (.cells #[.slice A n c, .slice E m d] 30)) (.cells #[.int .i64 0, .slice none 0 0] 27)
    have HC := cellNew (w.alloc (.cells #[.slice A n c, .slice E m d] 30)) (.int .i64 0) (.slice none 0 0) 27
    refine (HTU.out _ (rbK R1 HB.out) (rbK R2 HB.out)).mono ?_
    rintro e w1 ⟨rfl, hb⟩
    replace HB := belStep HB hb
    replace HC := cellStep HC hb
    simp only [World.size_alloc] at HC
    have k0 := HC.out.c0; have k1 := HC.out.c1; have f0 := HC.out.f0; have f1 := HC.out.f1; have hz := HC.out.lt
    clear hb
    go_wp2
    exact bodyPost_ret (v := .tuple #[.agg #[.int .i64 0, .slice none 0 0], .bool false]) (by simp [results, Try.results8, go_sem, k0, k1]) rfl ⟨none, 0, rfl, OI.none_ _ _, (HB.out.setCell (by simp) _).setCell (by simp) _⟩
  · have HIN : Hid (∀ wi : World, RI wi A n zs → RI wi E m us → Calls Try.prog 28 #[.agg #[.slice A n c, .slice E m d]] wi (RetI (invT zs us : Int) wi)) := fun wi r1 r2 => poInversions_any A n c zs E m d us wi r1 r2 ht
    have hx : (60 : Int) < (invT zs us : Int) := by
      unfold lpQ at hq
      rw [ht] at hq
      simp at hq
      omega
    obtain ⟨x, hX⟩ : ∃ x : Int, x = (invT zs us : Int) := ⟨_, rfl⟩
    rw [← hX] at HIN hx
    rw [ht] at HTU
    clear ht hq hX h g
    go_enter Try.func8, Try.ntmps8
    go_wp2_with fail
    have HB := belAlloc (belAlloc (belRefl (w := w)) (.cells #[.slice A n c, .slice E m d] 30)) (.cells #[.int .i64 0, .slice none 0 0] 27)
    have HC := cellNew (w.alloc (.cells #[.slice A n c, .slice E m d] 30)) (.int .i64 0) (.slice none 0 0) 27
    have HP := cellAlloc (cellNew w (.slice A n c) (.slice E m d) 30) (.cells #[.int .i64 0, .slice none 0 0] 27)
    refine (HTU.out _ (rbK R1 HB.out) (rbK R2 HB.out)).mono ?_
    rintro e w1 ⟨rfl, hb⟩
    replace HB := belStep HB hb
    replace HC := cellStep HC hb
    replace HP := cellStep HP hb
    simp only [World.size_alloc] at HC
    have p0 := HP.out.c0; have p1 := HP.out.c1
    clear hb
    go_wp2_with fail
    refine (HIN.out _ (rbK R1 HB.out) (rbK R2 HB.out)).mono ?_
    rintro e w2 ⟨rfl, hb⟩
    replace HB := belStep HB hb
    replace HC := cellStep HC hb
    have k0 := HC.out.c0; have k1 := HC.out.c1; have f0 := HC.out.f0; have f1 := HC.out.f1; have hz := HC.out.lt
    clear hb p0 p1
    go_wp2
    exact bodyPost_ret (v := .tuple #[.agg #[.int .i64 0, .slice none 0 0], .bool false]) (by simp [results, Try.results8, go_sem, k0, k1]) rfl ⟨none, 0, rfl, OI.none_ _ _, (HB.out.setCell (by simp) _).setCell (by simp) _⟩

set_option maxRecDepth 100000 in
set_option maxHeartbeats 2000000 in
theorem sLeastPole_yes (A : Option Addr) (n c : Nat) (zs : List Int) (E : Option Addr) (d : Nat) (us : List Int) (w : World) (h : RI w A n zs) (g : RI w E n us) (hnc : n ≤ c) (hq : lpQ zs us = true) :
    Calls Try.prog 8 #[.agg #[.slice A n c, .slice E n d]] w (FreshLB w (lpN zs us) (lpZ zs us).length (lpZ zs us) (lpQ zs us)) := by
  have R1 : Hid (RB w w.heap.size A n zs) := RB.of_ri h
  have R2 : Hid (RB w w.heap.size E n us) := RB.of_ri g
  have hzl := h.1; have hul := g.1
  obtain ⟨eN, eZ, ht, hv⟩ := lp_true hq
  have ok := TOk.of ht
  have n3 := ok.n3; have n8 := ok.n8
  have hn3 : 3 ≤ n ∧ n ≤ 8 := by omega
  have HTU : Hid (∀ wi : World, RI wi A n zs → RI wi E n us → Calls Try.prog 27 #[.agg #[.slice A n c, .slice E n d]] wi (RetB true wi)) := fun wi r1 r2 => by
    have := poTurned_any A n c zs E n d us wi r1 r2 (by omega) (by omega) hnc
    rwa [ht] at this
  have HIN : Hid (∀ wi : World, RI wi A n zs → RI wi E n us → Calls Try.prog 28 #[.agg #[.slice A n c, .slice E n d]] wi (RetI (invT zs us : Int) wi)) := fun wi r1 r2 => poInversions_any A n c zs E n d us wi r1 r2 ht
  have HS : Hid (∀ k, k ≤ invT zs us → trn (stK zs us k).1 (stK zs us k).2 = true) := fun k hk => (st_inv ht hv k hk).1
  have HD : Hid (∀ k, k < invT zs us → dscK (stK zs us k).1 (stK zs us k).2 (stK zs us k).1.length ≠ []) := fun k hk => st_some ht hv hk
  have HE : Hid (dscK (stK zs us (invT zs us)).1 (stK zs us (invT zs us)).2 (stK zs us (invT zs us)).1.length = []) := st_none ht hv
  rw [hq, eN, eZ, lpK_len, hzl]
  obtain ⟨I, hI⟩ : ∃ I, I = invT zs us := ⟨_, rfl⟩
  rw [← hI] at HIN HS HD HE hv ⊢
  have i60 : (I : Int) ≤ 60 := by omega
  have dA := Lib.hid (riBlk h (by omega))
  have dE := Lib.hid (riBlk g (by omega))
  have HZL := Lib.hid hzl; have HUL := Lib.hid hul
  clear h g hq eN eZ ht ok n3 n8 hzl hul hI
  go_enter Try.func8, Try.ntmps8
  go_wp2_with fail
  have HB := belAlloc (belAlloc (belRefl (w := w)) (.cells #[.slice A n c, .slice E n d] 30)) (.cells #[.int .i64 0, .slice none 0 0] 27)
  have HC := cellNew (w.alloc (.cells #[.slice A n c, .slice E n d] 30)) (.int .i64 0) (.slice none 0 0) 27
  have HP := cellAlloc (cellNew w (.slice A n c) (.slice E n d) 30) (.cells #[.int .i64 0, .slice none 0 0] 27)
  refine (HTU.out _ (rbK R1 HB.out) (rbK R2 HB.out)).mono ?_
  rintro e w1 ⟨rfl, hb⟩
  replace HB := belStep HB hb
  replace HC := cellStep HC hb
  replace HP := cellStep HP hb
  simp only [World.size_alloc] at HC
  have p0 := HP.out.c0; have p1 := HP.out.c1
  clear hb
  go_wp2_with fail
  refine (HIN.out _ (rbK R1 HB.out) (rbK R2 HB.out)).mono ?_
  rintro e w2 ⟨rfl, hb⟩
  replace HB := belStep HB hb
  replace HC := cellStep HC hb
  replace HP := cellStep HP hb
  have hK : w.heap.size + 2 ≤ w2.heap.size := by have := HC.out.lt; omega
  have HK := Lib.hid hK
  replace p0 := HP.out.c0; replace p1 := HP.out.c1
  have hz2 : w.heap.size < w2.heap.size := by omega
  clear hb HTU HIN hK
  go_wp2
  go_loopw [5] (fun i wr => ∃ (k : Nat) (A6 : Option Addr) (c6 : Nat) (P : Option Addr) (cP : Nat) (Q : Option Addr) (cQ : Nat), k ≤ I ∧ i = .int .i64 (k : Int) ∧ RM w wr (w2.heap.size + 1) n w2.heap.size (stK zs us k).1 (stK zs us k).2 (lpK zs us k) k A6 c6 P cP Q cQ ∧ n ≤ n) (fun i _ => I - (intOf i).toNat)
  case atStart =>
    have hs : (w2.alloc (.cells #[.int .i64 (n : Int), .slice none 0 0] 27)).heap.size = w2.heap.size + 1 := by simp
    refine ⟨0, none, 0, A, c, E, d, Nat.zero_le _, rfl, ⟨(belAlloc HB _).out, (cellAlloc HC _).out, (cellAlloc HP _).out, (cellNew w2 _ _ 27).out, OI.none_ _ _, rbK R1 (belAlloc HB _).out, rbK R2 (belAlloc HB _).out, fun x hx e => ?_, fun x hx e => ?_, fun e => ?_, by have := HK.out; omega, by rw [hs]; exact Nat.le_refl _, HK.out, fun x hx => ?_, fun x hx => ?_⟩, Nat.le_refl _⟩
    · cases e
    · cases e
    · cases e
    · have h1 := dA.out x hx; have h2 := HK.out; omega
    · have h1 := dE.out x hx; have h2 := HK.out; omega
  case round =>
    obtain ⟨k, A6, c6, P, cP, Q, cQ, hk, rfl, hT, _⟩ := hrel
    have T := Lib.hid hT
    have i3 : (k : Int) ≤ 60 := by omega
    have i4 : IntKind.i64.wrap ((k : Int) + 1) = (k : Int) + 1 := IntWalk.i64_in _ (by omega)
    have htk := HS.out k hk
    have hzk := (st_len zs us k).1
    rw [HZL.out] at hzk
    have HDK : Hid (∀ wi : World, RI wi P n (stK zs us k).1 → RI wi Q n (stK zs us k).2 → Calls Try.prog 29 #[.agg #[.slice P n cP, .slice Q n cQ]] wi (FreshI wi (dscK (stK zs us k).1 (stK zs us k).2 n).length (dscK (stK zs us k).1 (stK zs us k).2 n))) := fun wi r1 r2 => poDescents_any P n cP _ Q n cQ _ wi r1 r2 (TOk.of htk)
    have hrp := T.out.rp; have hrq := T.out.rq
    have q0 := T.out.box.c0; have q1 := T.out.box.c1
    clear hT p0 p1
    by_cases hlt : k < I
    · have ht1 := HS.out (k + 1) (by omega)
      have hne := HD.out k hlt
      have huk := (st_len zs us k).2
      rw [HUL.out] at huk
      obtain ⟨r, hr, hrn, _⟩ := fd_some hne
      obtain ⟨e1, e2, e3⟩ := st_next (n := n) HZL.out hr
      rw [e1, e2] at ht1
      have hu := trn_ends htk
      have hL0 : gi (dscK (stK zs us k).1 (stK zs us k).2 (stK zs us k).1.length) 0 = (r : Int) := hr
      have hLn := List.length_pos_iff.2 hne
      have hL8 := dscK_len (stK zs us k).1 (stK zs us k).2 (stK zs us k).1.length
      rw [hzk] at hrn hu hL0 hLn hL8
      obtain ⟨Zk, hZk⟩ : ∃ Z, Z = (stK zs us k).1 := ⟨_, rfl⟩
      obtain ⟨Uk, hUk⟩ : ∃ Z, Z = (stK zs us k).2 := ⟨_, rfl⟩
      rw [← hZk] at hrp e1 ht1 hL0 hLn hL8 HDK T
      rw [← hUk] at hrq huk e2 ht1 hu hL0 hLn hL8 HDK T
      have HTP : Hid (∀ wi : World, RI wi P n Zk → RI wi Q n Uk → Calls Try.prog 30 #[.agg #[.slice P n cP, .slice Q n cQ], .int .i64 (r : Int)] wi (LeftQ wi n (topE Zk r (nxtR n r)) (topW Uk r (nxtR n r) (wndR n r)))) :=
        fun wi r1 r2 => poTop_any P n cP Zk Q cQ Uk r wi r1 r2 hn3 hrn hu
      have E1 := Lib.hid e1; have E2 := Lib.hid e2; have E3 := Lib.hid e3
      have HRP0 := Lib.hid hrp; have HRQ0 := Lib.hid hrq
      obtain ⟨L, hL⟩ : ∃ L, L = dscK Zk Uk n := ⟨_, rfl⟩
      rw [← hL] at HDK hL0 hLn hL8
      obtain ⟨N, hN⟩ : ∃ N, N = L.length := ⟨_, rfl⟩
      rw [← hN] at HDK hLn hL8
      obtain ⟨ls, hls⟩ : ∃ l, l = lpK zs us k := ⟨_, rfl⟩
      rw [← hls] at T E3
      clear htk ht1 hne hzk huk hr hu hZk hUk hL hN e1 e2 e3 hrp hrq hls
      go_wp2_with fail
      refine (HDK.out _ HRP0.out HRQ0.out).mono ?_
      rintro e wx ⟨X, cX, rfl, ho, hb⟩
      obtain ⟨gx, rfl, hgx1, hgx2⟩ := ownBlk ho hLn
      have x0 : wx.cell? ⟨gx, 0, none⟩ = some (.int .i64 (r : Int)) := by
        obtain ⟨b', o', e, _, hc⟩ := ho.ri.cell hLn
        injection e with e; injection e with e1 e2 e3
        subst e1 e2
        have h2 := hc 0 hLn
        rw [hL0] at h2
        exact h2
      have hA6 : ∀ x, blk A6 = some x → w2.heap.size + 1 ≤ x ∧ x < wr.heap.size := T.out.own.blk
      have hb4 := T.out.var.lt
      have T1 := RM.step T hb
      have i2 : (0 : Int) < (N : Int) := by omega
      have i5 : ((N : Int) == 0) = false := by simp; omega
      have hkx := T1.out.kr
      clear q0 q1 hb ho T HRP0 HRQ0 hL0
      go_upto_region 9 with fail
      go_cut [6] from 29 to 37 (fun s6 wy => ∃ (A2 : Option Addr) (c2 : Nat), s6 = .slice (some ⟨gx, 0, none⟩) N cX ∧ RM w wy (w2.heap.size + 1) n w2.heap.size Zk Uk (ls ++ [(r : Int)]) (k + 1) A2 c2 P cP Q cQ ∧ wy.cell? ⟨gx, 0, none⟩ = some (.int .i64 (r : Int)) ∧ gx < wy.heap.size)
      case first =>
        have V1 := Lib.hid T1.out.var
        have HO1 := Lib.hid T1.out.own
        have hb5 : w2.heap.size < wx.heap.size := by omega
        have hgb4 : w2.heap.size ≠ gx := by have h1 := T1.out.kr; omega
        refine wp_region_held_drew (S := (fun w' => w'.cell? ⟨gx, 0, none⟩ = some (.int .i64 (r : Int)))) (by kernel_rfl) ?_ (fun hHeld => ?_)
        · exact x0
        refine wpAnyH_take (i := 0) (v := ?_) rfl (by kernel_rfl) (by kernel_rfl) (by kernel_rfl) (fun _ _ _ h => h) (Or.inl ⟨by kernel_rfl, ?_⟩) hHeld ?_
        rotate_left
        · (intro w hSw; (try dsimp only at hSw); (first | (go_simp; done) | (go_simp; with_reducible rfl)))
        try simp only [Act.put, List.getElem_toArray, List.getElem_cons_zero, List.setIfInBounds_toArray, List.set_cons_zero, List.set_cons_succ]
        refine wpAnyH_take (i := 2) (v := ?_) rfl (by kernel_rfl) (by kernel_rfl) (by kernel_rfl) (fun _ _ _ h => h) (Or.inl ⟨by kernel_rfl, ?_⟩) hHeld ?_
        rotate_left
        · (intro w hSw; (try dsimp only at hSw); (first | (go_simp; done) | (go_simp; with_reducible rfl)))
        try simp only [Act.put, List.getElem_toArray, List.getElem_cons_zero, List.getElem_cons_succ, List.setIfInBounds_toArray, List.set_cons_zero, List.set_cons_succ]
        refine wpAnyH_take (i := 3) (v := ?_) rfl (by kernel_rfl) (by kernel_rfl) (by kernel_rfl) (fun _ _ _ h => h) (Or.inl ⟨by kernel_rfl, ?_⟩) hHeld ?_
        rotate_left
        · (intro w hSw; (try dsimp only at hSw); (first | (go_simp; done) | (go_simp; with_reducible rfl)))
        try simp only [Act.put, List.getElem_toArray, List.getElem_cons_zero, List.getElem_cons_succ, List.setIfInBounds_toArray, List.set_cons_zero, List.set_cons_succ]
        refine wpAnyH_take (i := 4) (v := ?_) rfl (by kernel_rfl) (by kernel_rfl) (by kernel_rfl) (fun _ _ _ h => h) (Or.inl ⟨by kernel_rfl, ?_⟩) hHeld ?_
        rotate_left
        · (intro w hSw; (try dsimp only at hSw); (first | (go_simp; done) | (go_simp; with_reducible rfl)))
        try simp only [Act.put, List.getElem_toArray, List.getElem_cons_zero, List.getElem_cons_succ, List.setIfInBounds_toArray, List.set_cons_zero, List.set_cons_succ]
        refine wpAnyH_ready (rs := [1, 5]) (by kernel_rfl) (by simp) ?_
        refine AllReadyH.cons rfl (fun K hK => ?_) (AllReadyH.cons rfl (fun K hK => ?_) AllReadyH.nil)
        · simp only [List.getElem_toArray, List.getElem_cons_zero, List.getElem_cons_succ]
          have v1 := V1.out.c1; have v0 := V1.out.c0
          go_simp
          clear hHeld
          refine hK.out _ _ ?_ (fun hHeld => ?_)
          · first | exact x0 | (exact (((Below.refl wx.heap.size wx).alloc (Nat.le_refl _) (.cells #[.int .i64 (r : Int)] 3)).cell (p := ⟨gx, 0, none⟩) hgx2).trans x0)
          clear hK K
          try simp only [Act.put, List.getElem_toArray, List.getElem_cons_zero, List.getElem_cons_succ, List.setIfInBounds_toArray, List.set_cons_zero, List.set_cons_succ]
          refine wpAnyH_ready (rs := [5]) (by kernel_rfl) (by simp) ?_
          refine AllReadyH.cons rfl (fun K hK => ?_) AllReadyH.nil
          simp only [List.getElem_toArray, List.getElem_cons_zero, List.getElem_cons_succ]
          go_simp
          clear hHeld
          refine hK.out _ _ ?_ (fun hHeld => ?_)
          · exact (((Below.refl wx.heap.size wx).alloc (Nat.le_refl _) (.cells #[.int .i64 (r : Int)] 3)).cell (p := ⟨gx, 0, none⟩) hgx2).trans x0
          clear hK K
          try simp only [Act.put, List.getElem_toArray, List.getElem_cons_zero, List.getElem_cons_succ, List.setIfInBounds_toArray, List.set_cons_zero, List.set_cons_succ]
          refine wpAnyH_ready (rs := [6]) (by kernel_rfl) (by simp) ?_
          refine AllReadyH.cons rfl (fun K hK => ?_) AllReadyH.nil
          simp (config := { proj := false }) only [List.getElem_toArray, List.getElem_cons_zero, List.getElem_cons_succ]
          refine step_append_intL _ rfl (.tmp 30) (.tmp 34) rfl (w2.heap.size + 1) A6 k c6 _ (r : Int) wx.heap.size rfl rfl (by exact HO1.out.alloc (.cells #[.int .i64 (r : Int)] 3)) (by simp) (by omega) (by simp [World.drew]; omega) ?_
          intro A2 c2 w8 ho8 hg8 hl8
          have hg8' : (wx.alloc (.cells #[.int .i64 (r : Int)] 3)).grownBy w8 (blk A6) := ⟨hg8.os, hg8.tape, hg8.output, hg8.size, hg8.block⟩
          have hl8' : blk A2 = blk A6 ∨ blk A2 = some (wx.heap.size + 1) := by
            rcases hl8 with e | e
            · exact .inl e
            · refine .inr (e.trans ?_); simp [World.drew]
          have hs8 : wx.heap.size + 1 ≤ w8.heap.size := by have h1 := hg8'.size; simpa using h1
          have e8 : w8.heap[gx]? = (wx.alloc (.cells #[.int .i64 (r : Int)] 3)).heap[gx]? := hg8'.block gx (by simp; omega) (fun e => by have h1 := hA6 gx e.symm; omega)
          have X8 : w8.cell? ⟨gx, 0, none⟩ = some (.int .i64 (r : Int)) := by
            rw [World.cell?_of_block (a := ⟨gx, 0, none⟩) e8]
            exact (((Below.refl wx.heap.size wx).alloc (Nat.le_refl _) (.cells #[.int .i64 (r : Int)] 3)).cell (p := ⟨gx, 0, none⟩) hgx2).trans x0
          have V8 : Hid (Cell2 w8 w2.heap.size (.int .i64 (n : Int)) (.slice A6 k c6)) := Cell2.kept (cellAlloc V1 _).out hg8' T1.out.db
          have C8 : Hid (Cell2 w8 (w.heap.size + 1) (.int .i64 0) (.slice none 0 0)) := Cell2.kept (cellAlloc (Lib.hid T1.out.res) _).out hg8' (fun e => by have h1 := hA6 _ e; have h2 := HK.out; omega)
          have P8 : Hid (Cell2 w8 w.heap.size (.slice P n cP) (.slice Q n cQ)) := Cell2.kept (cellAlloc (Lib.hid T1.out.box) _).out hg8' (fun e => by have h1 := hA6 _ e; have h2 := HK.out; omega)
          have B8 : Hid (Below w.heap.size w w8) := Lib.hid ((belAlloc (Lib.hid T1.out.bel) _).out.trans (Below.of_grown hg8' (fun x hx => by have h1 := hA6 x hx; have h2 := HK.out; omega) (by have h1 := T1.out.kr; have h2 := HK.out; simp; omega)))
          have HRP8 : Hid (RI w8 P n Zk) := (T1.out.rp.alloc _).kept hg8' T1.out.dp
          have HRQ8 : Hid (RI w8 Q n Uk) := (T1.out.rq.alloc _).kept hg8' T1.out.dq
          have HO8 := Lib.hid ho8
          have dP8 : Hid (∀ x, blk P = some x → blk A2 ≠ some x) := fun x hx e => by
            rcases hl8' with h1 | h1
            · exact T1.out.dp x hx (h1 ▸ e)
            · have h2 := riBlk T1.out.rp (by omega) x hx; rw [h1] at e; have h3 := Option.some.inj e; omega
          have dQ8 : Hid (∀ x, blk Q = some x → blk A2 ≠ some x) := fun x hx e => by
            rcases hl8' with h1 | h1
            · exact T1.out.dq x hx (h1 ▸ e)
            · have h2 := riBlk T1.out.rq (by omega) x hx; rw [h1] at e; have h3 := Option.some.inj e; omega
          have dB8 : Hid (blk A2 ≠ some w2.heap.size) := fun e => by
            have h2 := (HO8.out.blk _ e).1; omega
          clear ho8 hg8 hg8' hl8 hl8' e8
          clear hHeld
          refine hK.out _ _ ?_ (fun hHeld => ?_)
          · exact X8
          clear hK K
          try simp only [Act.put, List.getElem_toArray, List.getElem_cons_zero, List.getElem_cons_succ, List.setIfInBounds_toArray, List.set_cons_zero, List.set_cons_succ]
          refine wpAnyH_take (i := 7) (v := ?_) rfl (by kernel_rfl) (by kernel_rfl) (by kernel_rfl) (fun _ _ _ h => h) (Or.inl ⟨by kernel_rfl, ?_⟩) hHeld ?_
          rotate_left
          · (intro w hSw; (try dsimp only at hSw); (first | (go_simp; done) | (go_simp; with_reducible rfl)))
          try simp only [Act.put, List.getElem_toArray, List.getElem_cons_zero, List.getElem_cons_succ, List.setIfInBounds_toArray, List.set_cons_zero, List.set_cons_succ]
          refine wpAnyH_ready (rs := [8]) (by kernel_rfl) (by simp) ?_
          refine AllReadyH.cons rfl (fun K hK => ?_) AllReadyH.nil
          simp only [List.getElem_toArray, List.getElem_cons_zero, List.getElem_cons_succ]
          have k0 := V8.out.c0; have k1 := V8.out.c1; have kf0 := V8.out.f0; have kf1 := V8.out.f1; have kz := V8.out.lt
          go_simp
          clear hHeld
          refine hK.out _ _ ?_ (fun hHeld => ?_)
          · (show World.cell? _ _ = _; rw [World.cell?_setCell_other _ _ _ _ (by simp [hgb4])]; exact X8)
          clear hK K
          try simp only [Act.put, List.getElem_toArray, List.getElem_cons_zero, List.getElem_cons_succ, List.setIfInBounds_toArray, List.set_cons_zero, List.set_cons_succ]
          refine wpAnyH_done (by kernel_rfl) ?_ _
          clear hHeld
          go_wp2
          go_meet
          case rel =>
            refine ⟨A2, c2, rfl, ⟨B8.out.setCell (by show w.heap.size ≤ w2.heap.size; omega) _, cellFar C8.out _ (by show w2.heap.size ≠ w.heap.size + 1; have := HK.out; omega) _, cellFar P8.out _ (by show w2.heap.size ≠ w.heap.size; have := HK.out; omega) _, cellSnd V8.out _, HO8.out.setBelow (by show w2.heap.size < w2.heap.size + 1; omega) _, riOff HRP8.out (fun x hx e => ?_) _ _, riOff HRQ8.out (fun x hx e => ?_) _ _, dP8.out, dQ8.out, dB8.out, T1.out.kk, by simp; omega, T1.out.wb, T1.out.pb, T1.out.qb⟩, by rw [World.cell?_setCell_other _ _ _ _ (by simp [hgb4])]; exact X8, by simp; omega⟩
            · exact T1.out.pb x hx e
            · exact T1.out.qb x hx e
        · simp only [List.getElem_toArray, List.getElem_cons_zero, List.getElem_cons_succ]
          go_simp
          clear hHeld
          refine hK.out _ _ ?_ (fun hHeld => ?_)
          · exact (((Below.refl wx.heap.size wx).alloc (Nat.le_refl _) (.cells #[.int .i64 (r : Int)] 3)).cell (p := ⟨gx, 0, none⟩) hgx2).trans x0
          clear hK K
          try simp only [Act.put, List.getElem_toArray, List.getElem_cons_zero, List.getElem_cons_succ, List.setIfInBounds_toArray, List.set_cons_zero, List.set_cons_succ]
          refine wpAnyH_ready (rs := [1]) (by kernel_rfl) (by simp) ?_
          refine AllReadyH.cons rfl (fun K hK => ?_) AllReadyH.nil
          simp only [List.getElem_toArray, List.getElem_cons_zero, List.getElem_cons_succ]
          have v1 := V1.out.c1; have v0 := V1.out.c0
          go_simp
          clear hHeld
          refine hK.out _ _ ?_ (fun hHeld => ?_)
          · first | exact x0 | (exact (((Below.refl wx.heap.size wx).alloc (Nat.le_refl _) (.cells #[.int .i64 (r : Int)] 3)).cell (p := ⟨gx, 0, none⟩) hgx2).trans x0)
          clear hK K
          try simp only [Act.put, List.getElem_toArray, List.getElem_cons_zero, List.getElem_cons_succ, List.setIfInBounds_toArray, List.set_cons_zero, List.set_cons_succ]
          refine wpAnyH_ready (rs := [6]) (by kernel_rfl) (by simp) ?_
          refine AllReadyH.cons rfl (fun K hK => ?_) AllReadyH.nil
          simp (config := { proj := false }) only [List.getElem_toArray, List.getElem_cons_zero, List.getElem_cons_succ]
          refine step_append_intL _ rfl (.tmp 30) (.tmp 34) rfl (w2.heap.size + 1) A6 k c6 _ (r : Int) wx.heap.size rfl rfl (by exact HO1.out.alloc (.cells #[.int .i64 (r : Int)] 3)) (by simp) (by omega) (by simp [World.drew]; omega) ?_
          intro A2 c2 w8 ho8 hg8 hl8
          have hg8' : (wx.alloc (.cells #[.int .i64 (r : Int)] 3)).grownBy w8 (blk A6) := ⟨hg8.os, hg8.tape, hg8.output, hg8.size, hg8.block⟩
          have hl8' : blk A2 = blk A6 ∨ blk A2 = some (wx.heap.size + 1) := by
            rcases hl8 with e | e
            · exact .inl e
            · refine .inr (e.trans ?_); simp [World.drew]
          have hs8 : wx.heap.size + 1 ≤ w8.heap.size := by have h1 := hg8'.size; simpa using h1
          have e8 : w8.heap[gx]? = (wx.alloc (.cells #[.int .i64 (r : Int)] 3)).heap[gx]? := hg8'.block gx (by simp; omega) (fun e => by have h1 := hA6 gx e.symm; omega)
          have X8 : w8.cell? ⟨gx, 0, none⟩ = some (.int .i64 (r : Int)) := by
            rw [World.cell?_of_block (a := ⟨gx, 0, none⟩) e8]
            exact (((Below.refl wx.heap.size wx).alloc (Nat.le_refl _) (.cells #[.int .i64 (r : Int)] 3)).cell (p := ⟨gx, 0, none⟩) hgx2).trans x0
          have V8 : Hid (Cell2 w8 w2.heap.size (.int .i64 (n : Int)) (.slice A6 k c6)) := Cell2.kept (cellAlloc V1 _).out hg8' T1.out.db
          have C8 : Hid (Cell2 w8 (w.heap.size + 1) (.int .i64 0) (.slice none 0 0)) := Cell2.kept (cellAlloc (Lib.hid T1.out.res) _).out hg8' (fun e => by have h1 := hA6 _ e; have h2 := HK.out; omega)
          have P8 : Hid (Cell2 w8 w.heap.size (.slice P n cP) (.slice Q n cQ)) := Cell2.kept (cellAlloc (Lib.hid T1.out.box) _).out hg8' (fun e => by have h1 := hA6 _ e; have h2 := HK.out; omega)
          have B8 : Hid (Below w.heap.size w w8) := Lib.hid ((belAlloc (Lib.hid T1.out.bel) _).out.trans (Below.of_grown hg8' (fun x hx => by have h1 := hA6 x hx; have h2 := HK.out; omega) (by have h1 := T1.out.kr; have h2 := HK.out; simp; omega)))
          have HRP8 : Hid (RI w8 P n Zk) := (T1.out.rp.alloc _).kept hg8' T1.out.dp
          have HRQ8 : Hid (RI w8 Q n Uk) := (T1.out.rq.alloc _).kept hg8' T1.out.dq
          have HO8 := Lib.hid ho8
          have dP8 : Hid (∀ x, blk P = some x → blk A2 ≠ some x) := fun x hx e => by
            rcases hl8' with h1 | h1
            · exact T1.out.dp x hx (h1 ▸ e)
            · have h2 := riBlk T1.out.rp (by omega) x hx; rw [h1] at e; have h3 := Option.some.inj e; omega
          have dQ8 : Hid (∀ x, blk Q = some x → blk A2 ≠ some x) := fun x hx e => by
            rcases hl8' with h1 | h1
            · exact T1.out.dq x hx (h1 ▸ e)
            · have h2 := riBlk T1.out.rq (by omega) x hx; rw [h1] at e; have h3 := Option.some.inj e; omega
          have dB8 : Hid (blk A2 ≠ some w2.heap.size) := fun e => by
            have h2 := (HO8.out.blk _ e).1; omega
          clear ho8 hg8 hg8' hl8 hl8' e8
          clear hHeld
          refine hK.out _ _ ?_ (fun hHeld => ?_)
          · exact X8
          clear hK K
          try simp only [Act.put, List.getElem_toArray, List.getElem_cons_zero, List.getElem_cons_succ, List.setIfInBounds_toArray, List.set_cons_zero, List.set_cons_succ]
          refine wpAnyH_take (i := 7) (v := ?_) rfl (by kernel_rfl) (by kernel_rfl) (by kernel_rfl) (fun _ _ _ h => h) (Or.inl ⟨by kernel_rfl, ?_⟩) hHeld ?_
          rotate_left
          · (intro w hSw; (try dsimp only at hSw); (first | (go_simp; done) | (go_simp; with_reducible rfl)))
          try simp only [Act.put, List.getElem_toArray, List.getElem_cons_zero, List.getElem_cons_succ, List.setIfInBounds_toArray, List.set_cons_zero, List.set_cons_succ]
          refine wpAnyH_ready (rs := [8]) (by kernel_rfl) (by simp) ?_
          refine AllReadyH.cons rfl (fun K hK => ?_) AllReadyH.nil
          simp only [List.getElem_toArray, List.getElem_cons_zero, List.getElem_cons_succ]
          have k0 := V8.out.c0; have k1 := V8.out.c1; have kf0 := V8.out.f0; have kf1 := V8.out.f1; have kz := V8.out.lt
          go_simp
          clear hHeld
          refine hK.out _ _ ?_ (fun hHeld => ?_)
          · (show World.cell? _ _ = _; rw [World.cell?_setCell_other _ _ _ _ (by simp [hgb4])]; exact X8)
          clear hK K
          try simp only [Act.put, List.getElem_toArray, List.getElem_cons_zero, List.getElem_cons_succ, List.setIfInBounds_toArray, List.set_cons_zero, List.set_cons_succ]
          refine wpAnyH_done (by kernel_rfl) ?_ _
          clear hHeld
          go_wp2
          go_meet
          case rel =>
            refine ⟨A2, c2, rfl, ⟨B8.out.setCell (by show w.heap.size ≤ w2.heap.size; omega) _, cellFar C8.out _ (by show w2.heap.size ≠ w.heap.size + 1; have := HK.out; omega) _, cellFar P8.out _ (by show w2.heap.size ≠ w.heap.size; have := HK.out; omega) _, cellSnd V8.out _, HO8.out.setBelow (by show w2.heap.size < w2.heap.size + 1; omega) _, riOff HRP8.out (fun x hx e => ?_) _ _, riOff HRQ8.out (fun x hx e => ?_) _ _, dP8.out, dQ8.out, dB8.out, T1.out.kk, by simp; omega, T1.out.wb, T1.out.pb, T1.out.qb⟩, by rw [World.cell?_setCell_other _ _ _ _ (by simp [hgb4])]; exact X8, by simp; omega⟩
            · exact T1.out.pb x hx e
            · exact T1.out.qb x hx e
      case rest =>
        obtain ⟨A2, c2, rfl, hT2, X8, hgx8⟩ := hcut
        have T8 := Lib.hid hT2
        clear hT2 T1 x0 hA6 hkx
        obtain ⟨w8, hw8⟩ : ∃ W, W = wc := ⟨_, rfl⟩
        subst hw8
        have V8 := Lib.hid T8.out.box
        have HRP8 := Lib.hid T8.out.rp; have HRQ8 := Lib.hid T8.out.rq
        have HN8d : Below w8.heap.size w8 w8.drew := drewBel w8
        have hgb : w.heap.size ≠ gx := by have h1 := T8.out.kk; omega
        go_upto_region 10 with fail
        refine wp_region_held_drew (S := (fun w' => w'.cell? ⟨gx, 0, none⟩ = some (.int .i64 (r : Int)))) (by kernel_rfl) ?_ (fun hHeld => ?_)
        · exact X8
        refine wpAnyH_take (i := 1) (v := ?_) rfl (by kernel_rfl) (by kernel_rfl) (by kernel_rfl) (fun _ _ _ h => h) (Or.inl ⟨by kernel_rfl, ?_⟩) hHeld ?_
        rotate_left
        · (intro w hSw; (try dsimp only at hSw); (first | (go_simp; done) | (go_simp; with_reducible rfl)))
        try simp only [Act.put, List.getElem_toArray, List.getElem_cons_zero, List.getElem_cons_succ, List.setIfInBounds_toArray, List.set_cons_zero, List.set_cons_succ]
        refine wpAnyH_take (i := 2) (v := ?_) rfl (by kernel_rfl) (by kernel_rfl) (by kernel_rfl) (fun _ _ _ h => h) (Or.inl ⟨by kernel_rfl, ?_⟩) hHeld ?_
        rotate_left
        · (intro w hSw; (try dsimp only at hSw); (first | (go_simp; done) | (go_simp; with_reducible rfl)))
        try simp only [Act.put, List.getElem_toArray, List.getElem_cons_zero, List.getElem_cons_succ, List.setIfInBounds_toArray, List.set_cons_zero, List.set_cons_succ]
        refine wpAnyH_take (i := 3) (v := ?_) rfl (by kernel_rfl) (by kernel_rfl) (by kernel_rfl) (fun _ _ _ h => h) (Or.inl ⟨by kernel_rfl, ?_⟩) hHeld ?_
        rotate_left
        · (intro w hSw; (try dsimp only at hSw); (first | (go_simp; done) | (go_simp; with_reducible rfl)))
        try simp only [Act.put, List.getElem_toArray, List.getElem_cons_zero, List.getElem_cons_succ, List.setIfInBounds_toArray, List.set_cons_zero, List.set_cons_succ]
        refine wpAnyH_ready (rs := [0]) (by kernel_rfl) (by simp) ?_
        refine AllReadyH.cons rfl (fun K hK => ?_) AllReadyH.nil
        simp only [List.getElem_toArray, List.getElem_cons_zero]
        have v0 := V8.out.c0; have v1 := V8.out.c1
        go_simp
        clear hHeld
        refine hK.out _ _ ?_ (fun hHeld => ?_)
        · exact X8
        clear hK K
        try simp only [Act.put, List.getElem_toArray, List.getElem_cons_zero, List.getElem_cons_succ, List.setIfInBounds_toArray, List.set_cons_zero, List.set_cons_succ]
        refine wpAnyH_ready (rs := [4]) (by kernel_rfl) (by simp) ?_
        refine AllReadyH.cons rfl (fun K hK => ?_) AllReadyH.nil
        simp only [List.getElem_toArray, List.getElem_cons_zero, List.getElem_cons_succ]
        go_simp
        (go_at_call 30; refine (HTP.out _ (RI.below HRP8.out HN8d (Nat.le_refl _)) (RI.below HRQ8.out HN8d (Nat.le_refl _))).mono ?_; rintro e w9 ⟨P', cP', Q', cQ', rfl, rp, rq, lp, lq, hb⟩; have HN9 : Hid (Below w8.heap.size w8 w9) := belStep (Lib.hid HN8d) hb; have V9 := cellStep V8 HN9.out; have X9 := (HN9.out.cell (p := ⟨gx, 0, none⟩) hgx8).trans X8; have HRP := Lib.hid rp; have HRQ := Lib.hid rq; have HLP := Lib.hid lp; have HLQ := Lib.hid lq; clear hb rp rq lp lq)
        clear hHeld
        refine hK.out _ _ ?_ (fun hHeld => ?_)
        · exact X9
        clear hK K
        try simp only [Act.put, List.getElem_toArray, List.getElem_cons_zero, List.getElem_cons_succ, List.setIfInBounds_toArray, List.set_cons_zero, List.set_cons_succ]
        refine wpAnyH_ready (rs := [5]) (by kernel_rfl) (by simp) ?_
        refine AllReadyH.cons rfl (fun K hK => ?_) AllReadyH.nil
        simp only [List.getElem_toArray, List.getElem_cons_zero, List.getElem_cons_succ]
        have k0 := V9.out.c0; have k1 := V9.out.c1; have kf0 := V9.out.f0; have kf1 := V9.out.f1; have kz := V9.out.lt
        go_simp
        clear hHeld
        refine hK.out _ _ ?_ (fun hHeld => ?_)
        · (show World.cell? _ _ = _; rw [World.cell?_setCell_other _ _ _ _ (by simp [hgb]), World.cell?_setCell_other _ _ _ _ (by simp [hgb])]; exact X9)
        clear hK K
        try simp only [Act.put, List.getElem_toArray, List.getElem_cons_zero, List.getElem_cons_succ, List.setIfInBounds_toArray, List.set_cons_zero, List.set_cons_succ]
        refine wpAnyH_done (by kernel_rfl) ?_ _
        clear hHeld
        have n1 : w.heap.size ≠ w.heap.size + 1 := by omega
        have n4 : w.heap.size ≠ w2.heap.size := by omega
        have hs9 := HN9.out.size
        have T9 := RM.step T8 HN9.out
        have hz9 : w.heap.size < w8.heap.size := T8.out.box.lt
        have BX : Hid (∀ x, blk A2 = some x → w2.heap.size + 1 ≤ x ∧ x < w8.heap.size) := T8.out.own.blk
        have T10 : Hid (RM w ((w9.setCell ⟨w.heap.size, 0, none⟩ (.slice P' n cP')).setCell ⟨w.heap.size, 1, none⟩ (.slice Q' n cQ')) (w2.heap.size + 1) n w2.heap.size (topE Zk r (nxtR n r)) (topW Uk r (nxtR n r) (wndR n r)) (ls ++ [(r : Int)]) (k + 1) A2 c2 P' cP' Q' cQ') :=
          ⟨(T9.out.bel.setCell (by simp) _).setCell (by simp) _, cellFar (cellFar T9.out.res ⟨w.heap.size, 0, none⟩ n1 _) ⟨w.heap.size, 1, none⟩ n1 _, cellSet2 V9.out _ _, cellFar (cellFar T9.out.var ⟨w.heap.size, 0, none⟩ n4 _) ⟨w.heap.size, 1, none⟩ n4 _,
            (T9.out.own.setBelow (p := ⟨w.heap.size, 0, none⟩) (by show w.heap.size < w2.heap.size + 1; omega) _).setBelow (p := ⟨w.heap.size, 1, none⟩) (by show w.heap.size < w2.heap.size + 1; omega) _,
            riOff (riOff HRP.out (k := w.heap.size) (fun x hx e => by have h1 : w8.heap.size ≤ x := HLP.out x hx; omega) 0 _) (k := w.heap.size) (fun x hx e => by have h1 : w8.heap.size ≤ x := HLP.out x hx; omega) 1 _,
            riOff (riOff HRQ.out (k := w.heap.size) (fun x hx e => by have h1 : w8.heap.size ≤ x := HLQ.out x hx; omega) 0 _) (k := w.heap.size) (fun x hx e => by have h1 : w8.heap.size ≤ x := HLQ.out x hx; omega) 1 _,
            fun x hx e => by have h1 : w8.heap.size ≤ x := HLP.out x hx; have h2 := BX.out x e; omega, fun x hx e => by have h1 : w8.heap.size ≤ x := HLQ.out x hx; have h2 := BX.out x e; omega, T9.out.db, T9.out.kk, by simpa using T9.out.kr, T9.out.wb, fun x hx => by have h1 : w8.heap.size ≤ x := HLP.out x hx; have h2 := T8.out.var.lt; omega, fun x hx => by have h1 : w8.heap.size ≤ x := HLQ.out x hx; have h2 := T8.out.var.lt; omega⟩
        obtain ⟨wy, hwy⟩ : ∃ W, W = (w9.setCell ⟨w.heap.size, 0, none⟩ (.slice P' n cP')).setCell ⟨w.heap.size, 1, none⟩ (.slice Q' n cQ') := ⟨_, rfl⟩
        rw [← hwy] at T10 ⊢
        clear hwy
        go_wp2
        go_roundw
        case rel =>
          exact ⟨k + 1, A2, c2, P', cP', Q', cQ', by omega, by go_num, by rw [E1.out, E2.out, E3.out]; exact T10.out, Nat.le_refl _⟩
        case measure => simp [intOf]; omega
    · obtain rfl : k = I := by omega
      have hn0 := HE.out
      rw [hzk] at hn0
      rw [hn0] at HDK
      have HRP0 := Lib.hid hrp; have HRQ0 := Lib.hid hrq
      clear htk hzk hn0 hrp hrq
      go_wp2_with fail
      refine (HDK.out _ HRP0.out HRQ0.out).mono ?_
      rintro e wx ⟨X, cX, rfl, ho, hb⟩
      have T1 := RM.step T hb
      have s0 := T1.out.res.c0; have s1 := T1.out.res.c1; have f0 := T1.out.res.f0; have f1 := T1.out.res.f1; have hz := T1.out.res.lt
      have v0 := T1.out.var.c0; have v1 := T1.out.var.c1
      have hk2 := T1.out.kk
      clear hb ho q0 q1
      go_wp2
      exact bodyPost_ret (v := .tuple #[.agg #[.int .i64 (n : Int), .slice A6 k c6], .bool true]) (by simp [results, Try.results8, go_sem, s0, s1]) rfl
        ⟨A6, c6, rfl, (((T1.out.own.setBelow (p := ⟨w.heap.size + 1, 0, none⟩) (by show w.heap.size + 1 < w2.heap.size + 1; omega) _).setBelow (p := ⟨w.heap.size + 1, 1, none⟩) (by show w.heap.size + 1 < w2.heap.size + 1; omega) _).mono (by omega)), (T1.out.bel.setCell (by simp) _).setCell (by simp) _⟩

theorem sLeastPole_any (A : Option Addr) (n c : Nat) (zs : List Int) (E : Option Addr) (m d : Nat) (us : List Int) (w : World) (h : RI w A n zs) (g : RI w E m us) (hn : n ≤ 1048576) (hm : m ≤ 1048576) (hnc : n ≤ c) :
    Calls Try.prog 8 #[.agg #[.slice A n c, .slice E m d]] w (FreshLB w (lpN zs us) (lpZ zs us).length (lpZ zs us) (lpQ zs us)) := by
  rcases hq : lpQ zs us with _ | _
  · have := sLeastPole_no A n c zs E m d us w h g hn hm hnc hq
    rwa [hq] at this
  · have hl := (TOk.of (lp_true hq).2.2.1).len
    have h1 := h.1; have h2 := g.1
    obtain rfl : m = n := by omega
    have := sLeastPole_yes A m c zs E d us w h g hnc hq
    rwa [hq] at this
theorem iLeastPole_any (A : Option Addr) (n c : Nat) (zs : List Int) (E : Option Addr) (m d : Nat) (us : List Int) (w : World) (h : RI w A n zs) (g : RI w E m us) (hn : n ≤ 1048576) (hm : m ≤ 1048576) (_ : n ≤ c) :
    Calls Try.prog 10 #[.agg #[.slice A n c, .slice E m d]] w (FreshLB w (lpN zs us) (lpZ zs us).length (lpZ zs us) (lpQ zs us)) := by
  rcases hq : lpQ zs us with _ | _
  · have := iLeastPole_no A n c zs E m d us w h g hn hm hq
    rwa [hq] at this
  · have hl := (TOk.of (lp_true hq).2.2.1).len
    have h1 := h.1; have h2 := g.1
    obtain rfl : m = n := by omega
    have := iLeastPole_yes A m c zs E d us w h g hq
    rwa [hq] at this
end Go.Proofs.Ytpkdeoehfnnchaa
