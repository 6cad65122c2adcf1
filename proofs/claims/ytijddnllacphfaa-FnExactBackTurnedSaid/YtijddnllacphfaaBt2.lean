/- BackTurned, of both. -/
import Derived.Test.YtijddnllacphfaaBt1
import Derived.Test.YtijddnllacphfaaUl2
import Derived.Test.YtijddnllacphfaaTo2
import Derived.Deep.Cut
namespace Go.Proofs.Ytijddnllacphfaa
open Go Go.RowKit

theorem oiD5 {w : World} {B : Nat} {A : Option Addr} {n c : Nat} {zs : List Int} (h : OI w B A n c zs) : OI w.drew B A n c zs := h
theorem rowZ (w : World) (n B : Nat) (hB : B ≤ w.heap.size) (hn : n ≤ 1000000) : OI (w.alloc (.cells (madeCells #[.int .i64 0] n) 3)) B (some ⟨w.heap.size, 0, none⟩) n n (List.replicate n 0) :=
  OI.of_rowIs hB (World.rowIs_made w (.int .i64 0) n 3) (by simp only [maxLen]; omega) (by simp) (fun j _ => by rw [gi_zeros])
theorem rowZ0 (w : World) (n B : Nat) (hB : B ≤ w.heap.size) (hn : n ≤ 1000000) (o1 o2 : Obj) : OI (((w.alloc (.cells (madeCells #[.int .i64 0] n) 3)).alloc o1).alloc o2) B (some ⟨w.heap.size, 0, none⟩) n n (List.replicate n 0) := ((rowZ w n B hB hn).alloc _).alloc _
theorem rowZ1 (w : World) (n B : Nat) (hB : B ≤ w.heap.size) (hn : n ≤ 1000000) (o0 o2 : Obj) : OI (((w.alloc o0).alloc (.cells (madeCells #[.int .i64 0] n) 3)).alloc o2) B (some ⟨w.heap.size + 1, 0, none⟩) n n (List.replicate n 0) := by
  have h := (rowZ (w.alloc o0) n B (by simp; omega) hn).alloc o2
  simp only [World.size_alloc] at h
  exact h
theorem rowZ2 (w : World) (n B : Nat) (hB : B ≤ w.heap.size) (hn : n ≤ 1000000) (o0 o1 : Obj) : OI (((w.alloc o0).alloc o1).alloc (.cells (madeCells #[.int .i64 0] n) 3)) B (some ⟨w.heap.size + 1 + 1, 0, none⟩) n n (List.replicate n 0) := by
  have h := rowZ ((w.alloc o0).alloc o1) n B (by simp; omega) hn
  simp only [World.size_alloc] at h
  exact h
theorem cellT0 (w : World) (u v : Value) (o1 o2 : Obj) : Hid (Cell2 (((w.alloc (.cells #[u, v] 27)).alloc o1).alloc o2) w.heap.size u v) := cellAlloc (cellAlloc (cellNew w u v _) _) _
theorem cellT1 (w : World) (u v : Value) (o0 o2 : Obj) : Hid (Cell2 (((w.alloc o0).alloc (.cells #[u, v] 27)).alloc o2) (w.heap.size + 1) u v) := by
  have h := cellAlloc (cellNew (w.alloc o0) u v 27) o2
  simp only [World.size_alloc] at h
  exact h
theorem cellT2 (w : World) (u v : Value) (o0 o1 : Obj) : Hid (Cell2 (((w.alloc o0).alloc o1).alloc (.cells #[u, v] 27)) (w.heap.size + 1 + 1) u v) := by
  have h := cellNew ((w.alloc o0).alloc o1) u v 27
  simp only [World.size_alloc] at h
  exact h
theorem OI.offOf {w : World} {B g k n c : Nat} {zs : List Int} (h : OI w B (some ⟨g, 0, none⟩) n c zs) (hne : g ≠ k) (j : Nat) (v : Value) : OI (w.setCell ⟨k, j, none⟩ v) B (some ⟨g, 0, none⟩) n c zs :=
  h.kept (row := some k) (grown_setCell (g := k) (grown_refl w _) (.inl rfl) _) (fun b hb e => by
    have h1 : g = b := by simpa [Go.Proofs.Ytijddnllacphfaa.blk] using hb
    have h2 := Option.some.inj e
    omega)

set_option maxHeartbeats 400000 in
theorem index_any (A : Option Addr) (n c : Nat) (zs : List Int) (x : Int) (i : Nat) (w : World) (h : RI w A n zs) (hn : n ≤ 1000000) (hi : i < n) (he : gi zs i = x) (hb : ∀ j, j < i → gi zs j ≠ x) :
    Calls Try.prog 53 #[.slice A n c, .int .i64 x] w (SameI (i : Int) w) := by
  have HE := Lib.hid he
  have HN := Lib.hid hb
  clear he hb
  go_enter Try.func53, Try.ntmps53
  go_wp2
  go_loop [5, 8] (fun _ s => ∃ k : Nat, k ≤ i ∧ s = .int .i64 k) (fun _ s => n - (intOf s).toNat)
  case atStart => exact ⟨0, Nat.zero_le _, rfl⟩
  case round =>
    obtain ⟨k, hk, rfl⟩ := hrel
    obtain ⟨b, off, rfl, hbw, hc⟩ := h.cell (j := k) (by omega)
    have hck := hc k (by omega)
    have hkn : k < n := by omega
    clear hc h
    by_cases hlt : k < i
    · have e1 : (x == gi zs k) = false := by rw [beq_eq_false_iff_ne]; exact fun e => HN.out k hlt e.symm
      obtain ⟨y, hy⟩ : ∃ y, y = gi zs k := ⟨_, rfl⟩
      rw [← hy] at hck e1
      clear hy
      go_wp2
      go_round
      case rel => exact ⟨k + 1, by omega, by go_num⟩
      case measure => simp [intOf]; omega
    · obtain rfl : k = i := by omega
      rw [HE.out] at hck
      have e1 : (x == x) = true := by simp
      go_wp2
      go_ret
      exact ⟨rfl, rfl⟩

set_option maxRecDepth 100000 in
set_option maxHeartbeats 1000000 in
theorem backTell_any (b : Nat) (A : Option Addr) (n c : Nat) (zs : List Int) (E : Option Addr) (m d : Nat) (us : List Int) (x i : Nat) (q : Int) (w : World)
    (c0 : w.cell? ⟨b, 0, none⟩ = some (.slice A n c)) (c1 : w.cell? ⟨b, 1, none⟩ = some (.slice E m d)) (hb : b < w.heap.size) (h : RI w A n zs) (g : RI w E m us) (hn : n ≤ 1000000) (_ : m ≤ 1000000) (hi : i < n) (him : i < m) (he : gi zs i = (x : Int)) (hf : ∀ j, j < i → gi zs j ≠ (x : Int)) (hu : -100000 ≤ gi us i ∧ gi us i ≤ 100000) :
    Calls Try.prog 52 #[.agg #[.int .i64 (x : Int), .int .i64 q], .pointer (some ⟨b, 0, none⟩)] w (RetP2 (i : Int) (-(gi us i)) w) := by
  obtain ⟨bb, ob, rfl, hbb, hcb⟩ := g.cell him
  have k1 := hcb i him
  have HI := Lib.hid (index_any A n c zs (x : Int) i · · hn hi he hf)
  obtain ⟨y, hy⟩ : ∃ y, y = gi us i := ⟨_, rfl⟩
  rw [← hy] at k1 hu ⊢
  have H0 := Lib.hid ((h.alloc (.cells #[.int .i64 (x : Int), .int .i64 q] 63)).alloc (.cells #[.int .i64 0, .int .i64 0] 63))
  have i1 : (0 : Int) ≤ (i : Int) := by omega
  have i2 : (i : Int) < (m : Int) := by omega
  have hwr : IntKind.i64.wrap (-y) = -y := IntWalk.i64_in _ (by omega)
  clear hcb h g hy he hf
  go_enter Try.func52, Try.ntmps52
  go_wp2_with fail
  refine (HI.out _ H0.out).mono ?_
  rintro e w' ⟨rfl, rfl⟩
  go_wp2
  exact bodyPost_ret (v := .agg #[.int .i64 (i : Int), .int .i64 (-y)]) (by simp [results, Try.results52, go_sem]) rfl ⟨rfl, (by repeat (first | exact Below.refl _ _ | exact HB.out | refine Below.setCell ?_ (by simp <;> omega) _ | refine Below.alloc ?_ (by simp <;> omega) _ | refine below_drewN ?_ _))⟩

set_option maxRecDepth 100000 in
set_option maxHeartbeats 1000000 in
theorem iBackTurned_any (A : Option Addr) (n c : Nat) (zs : List Int) (E : Option Addr) (m d : Nat) (us : List Int) (w : World) (h : RI w A n zs) (g : RI w E m us) (hn : n ≤ 1048576) (hm : m ≤ 1048576) (hnc : n ≤ c) :
    Calls Try.prog 22 #[.agg #[.slice A n c, .slice E m d]] w (FreshTB w (btE zs us).length (btE zs us) (btW zs us).length (btW zs us) (trn zs us)) := by
  have _hc := hnc
  rcases ht : trn zs us with _ | _
  · unfold btE btW; rw [ht, ifL_no, ifL_no]
    have HT := Lib.hid ht
    clear ht
    go_enter Try.func22, Try.ntmps22
    go_wp2_with fail
    have HB := belAlloc (belAlloc (belRefl (w := w)) (.cells #[.slice A n c, .slice E m d] 27)) (.cells #[.slice none 0 0, .slice none 0 0] 27)
    have HC := cellNew (w.alloc (.cells #[.slice A n c, .slice E m d] 27)) (.slice none 0 0) (.slice none 0 0) 27
    refine (iIsTurned_any A n c zs E m d us _ ((h.alloc _).alloc _) ((g.alloc _).alloc _) hn hm).mono ?_
    rw [HT.out]
    rintro e w1 ⟨rfl, hb⟩
    replace HB := belStep HB hb
    replace HC := cellStep HC hb
    have k0 := HC.out.c0; have k1 := HC.out.c1; have f0 := HC.out.f0; have f1 := HC.out.f1; have hz := HC.out.lt
    simp only [World.size_alloc] at k0 k1 f0 f1 hz
    clear hb h g
    go_wp2
    exact bodyPost_ret (v := .tuple #[.agg #[.slice none 0 0, .slice none 0 0], .bool false]) (by simp [results, Try.results22, go_sem, k0, k1]) rfl ⟨none, 0, none, 0, w.heap.size, rfl, OG.none_ (Nat.le_refl _) (by simp; omega), OG.none_ (by simp; omega) (by simp), (HB.out.setCell (by simp) _).setCell (by simp) _⟩
  · have HE : Hid (btE zs us = bkE zs zs.length) := by show _ = _; unfold btE; rw [ht]; rfl
    have HW : Hid (btW zs us = bkW zs us zs.length) := by show _ = _; unfold btW; rw [ht]; rfl
    have hbk := trn_back ht
    have ok := TOk.of ht
    have hzl := h.1
    have hul := g.1
    have hd := ord_ne (trn_iff.1 ht).1
    have hEa := (bkE_at ok hd zs.length (Nat.le_refl _)).1
    have hWa := (bkW_at (us := us) ok hd zs.length (Nat.le_refl _)).1
    rw [HE.out, HW.out]
    obtain ⟨ys, hys⟩ : ∃ ys, ys = bkE zs zs.length := ⟨_, rfl⟩
    obtain ⟨vs, hvs⟩ : ∃ vs, vs = bkW zs us zs.length := ⟨_, rfl⟩
    have HY : Hid (ys.length = n) := by show ys.length = n; rw [hys, bkE_len, hzl]
    have HV : Hid (vs.length = n) := by show vs.length = n; rw [hvs, bkW_len, hzl]
    rw [← hys] at hEa; rw [← hvs] at hWa; rw [← hys, ← hvs] at hbk
    rw [← hys, ← hvs]
    have n3 := ok.n3; have n8 := ok.n8; have hln := ok.len
    have HRT := Lib.hid (fun (b : Nat) (x : Nat) (w' : World) (hx : x < n) (e0 : w'.cell? ⟨b, 0, none⟩ = some (.slice A n c)) (e1 : w'.cell? ⟨b, 1, none⟩ = some (.slice E m d)) (hb : b < w'.heap.size) (r1 : RI w' A n zs) (r2 : RI w' E m us) => (by
      obtain ⟨i, hi, he⟩ := ord_has (trn_iff.1 ht).1 (x := x) (by omega)
      have h1 := backTell_any b A n c zs E m d us x i 0 w' e0 e1 hb r1 r2 (by omega) (by omega) (by omega) (by omega) he (fun j hj e => hd j i hj hi (by omega)) (by have := ok.ur i hi; omega)
      have h2 := hEa i hi
      have h3 := hWa i hi
      rw [he, Int.toNat_natCast] at h2 h3
      rw [h2, h3]
      exact h1 : Calls Try.prog 52 #[.agg #[.int .i64 (x : Int), .int .i64 0], .pointer (some ⟨b, 0, none⟩)] w' (RetP2 (gi ys x) (gi vs x) w')))
    have HBK := Lib.hid hbk
    have HA0 : Hid (RB w w.heap.size A n zs) := RB.of_ri h
    have HE0 : Hid (RB w w.heap.size E m us) := RB.of_ri g
    have HT := Lib.hid ht
    have hn3 : 3 ≤ n ∧ n ≤ 8 := by omega
    clear ht hbk ok hzl hul hd hEa hWa hys hvs n3 n8 hln
    go_enter Try.func22, Try.ntmps22
    go_wp2_with fail
    have HB := belAlloc (belAlloc (belRefl (w := w)) (.cells #[.slice A n c, .slice E m d] 27)) (.cells #[.slice none 0 0, .slice none 0 0] 27)
    have HP := cellAlloc (cellNew w (.slice A n c) (.slice E m d) 27) (.cells #[.slice none 0 0, .slice none 0 0] 27)
    have HC := cellNew (w.alloc (.cells #[.slice A n c, .slice E m d] 27)) (.slice none 0 0) (.slice none 0 0) 27
    refine (iIsTurned_any A n c zs E m d us _ ((h.alloc _).alloc _) ((g.alloc _).alloc _) hn hm).mono ?_
    rw [HT.out]
    rintro e w1 ⟨rfl, hb⟩
    replace HB := belStep HB hb
    replace HP := cellStep HP hb
    replace HC := cellStep HC hb
    simp only [World.size_alloc] at HC
    have a0 := HP.out.c0; have a1 := HP.out.c1
    have cz := HC.out.lt
    clear hb h g
    go_wp2_with fail
    refine (turnedOf_back n ys vs w.heap.size w1 hn3 HY.out HV.out (Lib.hid fun i w' hi hb => HRT.out w.heap.size i w' hi (cellStep HP hb).out.c0 (cellStep HP hb).out.c1 (cellStep HP hb).out.lt (rbK HA0 (HB.out.trans (hb.mono HB.out.size))) (rbK HE0 (HB.out.trans (hb.mono HB.out.size))))).mono ?_
    rw [HBK.out]
    rintro e w2 ⟨A9, c9, E9, d9, mid, rfl, o1, o2, hb⟩
    replace HB := belStep HB hb
    replace HC := cellStep HC hb
    rw [ifL_yes] at o1 o2
    have O1 := Lib.hid o1; have O2 := Lib.hid o2
    have hs2 := hb.size
    have k0 := HC.out.c0; have k1 := HC.out.c1; have f0 := HC.out.f0; have f1 := HC.out.f1; have hz := HC.out.lt
    have hm1 := o1.le; have hm2 := o1.top
    clear hb o1 o2 HRT a0 a1
    simp only [ifL_yes]
    go_wp2
    refine bodyPost_ret (v := .tuple #[.agg #[.slice A9 ys.length c9, .slice E9 vs.length d9], .bool true]) (by simp [results, Try.results22, go_sem, k0, k1]) rfl
      ⟨A9, c9, E9, d9, mid, rfl, ?_, ?_, (HB.out.setCell (by simp) _).setCell (by simp) _⟩
    · exact ((O1.out.setBelow (p := ⟨w.heap.size + 1, 0, none⟩) (by show w.heap.size + 1 < w1.heap.size; omega) (.slice A9 ys.length c9)).setBelow (p := ⟨w.heap.size + 1, 1, none⟩) (by show w.heap.size + 1 < w1.heap.size; omega) (.slice E9 vs.length d9)).widen (by omega) (Nat.le_refl _) (by simp; omega)
    · have h3 := (O2.out.setBelow (p := ⟨w.heap.size + 1, 0, none⟩) (by show w.heap.size + 1 < mid; omega) (.slice A9 ys.length c9)).setBelow (p := ⟨w.heap.size + 1, 1, none⟩) (by show w.heap.size + 1 < mid; omega) (.slice E9 vs.length d9)
      simpa using h3

set_option maxRecDepth 100000 in
set_option maxHeartbeats 1000000 in
theorem sBackTurned_any (A : Option Addr) (n c : Nat) (zs : List Int) (E : Option Addr) (m d : Nat) (us : List Int) (w : World) (h : RI w A n zs) (g : RI w E m us) (hn : n ≤ 1048576) (hm : m ≤ 1048576) (hnc : n ≤ c) :
    Calls Try.prog 21 #[.agg #[.slice A n c, .slice E m d]] w (ReadTB w (btE zs us).length (btE zs us) (btW zs us).length (btW zs us) (trn zs us)) := by
  have _hc := hnc
  rcases ht : trn zs us with _ | _
  · unfold btE btW; rw [ht, ifL_no, ifL_no]
    have HT := Lib.hid ht
    clear ht
    go_enter Try.func21, Try.ntmps21
    go_wp2_with fail
    have HB := belAlloc (belAlloc (belRefl (w := w)) (.cells #[.slice A n c, .slice E m d] 27)) (.cells #[.slice none 0 0, .slice none 0 0] 27)
    have HC := cellNew (w.alloc (.cells #[.slice A n c, .slice E m d] 27)) (.slice none 0 0) (.slice none 0 0) 27
    refine (poTurned_any A n c zs E m d us _ ((h.alloc _).alloc _) ((g.alloc _).alloc _) hn hm hnc).mono ?_
    rw [HT.out]
    rintro e w1 ⟨rfl, hb⟩
    replace HB := belStep HB hb
    replace HC := cellStep HC hb
    have k0 := HC.out.c0; have k1 := HC.out.c1; have f0 := HC.out.f0; have f1 := HC.out.f1; have hz := HC.out.lt
    simp only [World.size_alloc] at k0 k1 f0 f1 hz
    clear hb h g
    go_wp2
    exact bodyPost_ret (v := .tuple #[.agg #[.slice none 0 0, .slice none 0 0], .bool false]) (by simp [results, Try.results21, go_sem, k0, k1]) rfl ⟨none, 0, none, 0, rfl, (OI.none_ _ 0).ri, (OI.none_ _ 0).ri, (HB.out.setCell (by simp) _).setCell (by simp) _⟩
  · have HE : Hid (btE zs us = bkE zs zs.length) := by show _ = _; unfold btE; rw [ht]; rfl
    have HW : Hid (btW zs us = bkW zs us zs.length) := by show _ = _; unfold btW; rw [ht]; rfl
    have ok := TOk.of ht
    have hzl := h.1
    have hul := g.1
    rw [HE.out, HW.out, bkE_len, bkW_len, hzl]
    have n3 := ok.n3; have n8 := ok.n8; have hln := ok.len
    have HOK := Lib.hid ok
    have HA0 : Hid (RB w w.heap.size A n zs) := RB.of_ri h
    have HE0 : Hid (RB w w.heap.size E m us) := RB.of_ri g
    have HT := Lib.hid ht
    have HZL := Lib.hid hzl
    have hn3 : 3 ≤ n ∧ n ≤ 8 := by omega
    have hnm : n ≤ m := by omega
    have hmk := run_make_row' (P := Try.prog) 22 3 (.int .i64 0) 8 Try.underlying22 infoInt rfl .i64 .i64 n (by omega) (by omega)
    clear ht ok hzl hul n3 n8 hln
    go_enter Try.func21, Try.ntmps21
    have HB := belAlloc (belAlloc (belRefl (w := w)) (.cells #[.slice A n c, .slice E m d] 27)) (.cells #[.slice none 0 0, .slice none 0 0] 27)
    have HP := cellAlloc (cellNew w (.slice A n c) (.slice E m d) 27) (.cells #[.slice none 0 0, .slice none 0 0] 27)
    have HC := cellNew (w.alloc (.cells #[.slice A n c, .slice E m d] 27)) (.slice none 0 0) (.slice none 0 0) 27
    go_wp2_with fail
    refine (poTurned_any A n c zs E m d us _ ((h.alloc _).alloc _) ((g.alloc _).alloc _) hn hm hnc).mono ?_
    rw [HT.out]
    rintro e w1 ⟨rfl, hb⟩
    replace HB := belStep HB hb
    replace HP := cellStep HP hb
    replace HC := cellStep HC hb
    simp only [World.size_alloc] at HC
    have a0 := HP.out.c0; have a1 := HP.out.c1
    have cz := HC.out.lt
    clear hb h g
    go_upto_region 4 with fail
    go_cut [5] from 20 (fun s5 wx => ∃ g1 g2 b5 : Nat, s5 = .pointer (some ⟨b5, 0, none⟩) ∧ Cell2 wx b5 (.slice (some ⟨g1, 0, none⟩) n n) (.slice (some ⟨g2, 0, none⟩) n n) ∧ OI wx w1.heap.size (some ⟨g1, 0, none⟩) n n (List.replicate n 0) ∧ OI wx w1.heap.size (some ⟨g2, 0, none⟩) n n (List.replicate n 0) ∧ Below w1.heap.size w1 wx ∧ g1 ≠ g2 ∧ b5 ≠ g1 ∧ b5 ≠ g2 ∧ w1.heap.size ≤ b5)
    case first =>
      have RZ0 := Lib.hid (rowZ0 w1 n w1.heap.size (Nat.le_refl _) (by omega))
      have RZ1 := Lib.hid (rowZ1 w1 n w1.heap.size (Nat.le_refl _) (by omega))
      have RZ2 := Lib.hid (rowZ2 w1 n w1.heap.size (Nat.le_refl _) (by omega))
      go_region
      all_goals
        go_wp2
        go_meet
        case rel =>
          first | exact ⟨_, _, _, rfl, (cellDrew (cellT2 w1 _ _ _ _)).out, oiD5 (RZ0.out _ _), oiD5 (RZ1.out _ _), ((((Below.refl _ _).alloc (Nat.le_refl _) _).alloc (by simp) _).alloc (by simp; omega) _).drew, by omega, by omega, by omega, by omega⟩ | exact ⟨_, _, _, rfl, (cellDrew (cellT2 w1 _ _ _ _)).out, oiD5 (RZ1.out _ _), oiD5 (RZ0.out _ _), ((((Below.refl _ _).alloc (Nat.le_refl _) _).alloc (by simp) _).alloc (by simp; omega) _).drew, by omega, by omega, by omega, by omega⟩ | exact ⟨_, _, _, rfl, (cellDrew (cellT1 w1 _ _ _ _)).out, oiD5 (RZ0.out _ _), oiD5 (RZ2.out _ _), ((((Below.refl _ _).alloc (Nat.le_refl _) _).alloc (by simp) _).alloc (by simp; omega) _).drew, by omega, by omega, by omega, by omega⟩ | exact ⟨_, _, _, rfl, (cellDrew (cellT1 w1 _ _ _ _)).out, oiD5 (RZ2.out _ _), oiD5 (RZ0.out _ _), ((((Below.refl _ _).alloc (Nat.le_refl _) _).alloc (by simp) _).alloc (by simp; omega) _).drew, by omega, by omega, by omega, by omega⟩ | exact ⟨_, _, _, rfl, (cellDrew (cellT0 w1 _ _ _ _)).out, oiD5 (RZ1.out _ _), oiD5 (RZ2.out _ _), ((((Below.refl _ _).alloc (Nat.le_refl _) _).alloc (by simp) _).alloc (by simp; omega) _).drew, by omega, by omega, by omega, by omega⟩ | exact ⟨_, _, _, rfl, (cellDrew (cellT0 w1 _ _ _ _)).out, oiD5 (RZ2.out _ _), oiD5 (RZ1.out _ _), ((((Below.refl _ _).alloc (Nat.le_refl _) _).alloc (by simp) _).alloc (by simp; omega) _).drew, by omega, by omega, by omega, by omega⟩
    case rest =>
      obtain ⟨g1, g2, b5, rfl, hc5, ho1, ho2, hbc, h12, h51, h52, hb5⟩ := hcut
      have HC5 := Lib.hid hc5; have O1 := Lib.hid ho1; have O2 := Lib.hid ho2; have HN := Lib.hid hbc
      have H12 := Lib.hid h12; have H51 := Lib.hid h51; have H52 := Lib.hid h52; have HB5 := Lib.hid hb5
      have HPc := cellBelow HP (by have := cz; omega) hbc
      have a0 := HPc.out.c0; have a1 := HPc.out.c1
      clear hc5 ho1 ho2 hbc h12 h51 h52 hb5 hmk
      go_wp2
      go_loopw [6, 7, 23] (fun _ _ i wr => ∃ k : Nat, k ≤ n ∧ i = .int .i64 k ∧ Cell2 wr b5 (.slice (some ⟨g1, 0, none⟩) n n) (.slice (some ⟨g2, 0, none⟩) n n) ∧ OI wr w1.heap.size (some ⟨g1, 0, none⟩) n n (bkE zs k) ∧ OI wr w1.heap.size (some ⟨g2, 0, none⟩) n n (bkW zs us k) ∧ Below w1.heap.size w1 wr) (fun _ _ i _ => n - (intOf i).toNat)
      case atStart => exact ⟨0, Nat.zero_le _, rfl, HC5.out, by rw [bkE, HZL.out]; exact O1.out, by rw [bkW, HZL.out]; exact O2.out, HN.out⟩
      case round =>
        obtain ⟨k, hk, rfl, hc5, ho1, ho2, hbc⟩ := hrel
        have HC5 := Lib.hid hc5; have O1 := Lib.hid ho1; have O2 := Lib.hid ho2; have HN := Lib.hid hbc
        have HPr : Hid (Cell2 wr w.heap.size (.slice A n c) (.slice E m d)) := cellBelow HP (by have := cz; omega) hbc
        have HBr : Hid (Below w.heap.size w wr) := Lib.hid (HB.out.trans (hbc.mono HB.out.size))
        clear a0 a1 hc5 ho1 ho2 hbc
        have a0 := HPr.out.c0; have a1 := HPr.out.c1
        have q0 := HC5.out.c0; have q1 := HC5.out.c1
        by_cases hlt : k < n
        · have hra := rbK HA0 HBr.out
          have hre := rbK HE0 HBr.out
          obtain ⟨ba, oa, rfl, hba, hca⟩ := hra.cell hlt
          obtain ⟨be, oe, rfl, hbe, hce⟩ := hre.cell (j := k) (by omega)
          have k0 := hca k hlt
          have k1 := hce k (by omega)
          obtain ⟨x, hx⟩ : ∃ x : Nat, gi zs k = (x : Int) := ⟨(gi zs k).toNat, by have := HOK.out.zr k (by have := HZL.out; omega); omega⟩
          have hxn : x < n := by have := HOK.out.zr k (by have := HZL.out; omega); have := HZL.out; omega
          have hur := HOK.out.ur k (by have := HZL.out; omega)
          have HD1 : Hid (bkE zs (k + 1) = (bkE zs k).set x (k : Int)) := by show _ = _; rw [bkE, hx, Int.toNat_natCast]
          have HD2 : Hid (bkW zs us (k + 1) = (bkW zs us k).set x (-(gi us k))) := by show _ = _; rw [bkW, hx, Int.toNat_natCast]
          rw [hx] at k0
          obtain ⟨y, hy⟩ : ∃ y, y = gi us k := ⟨_, rfl⟩
          rw [← hy] at k1 hur HD2
          have hwr : IntKind.i64.wrap (-y) = -y := IntWalk.i64_in _ (by omega)
          obtain ⟨v1, hv1⟩ : ∃ v, wr.cell? ⟨g1, x, none⟩ = some v := by
            obtain ⟨b', o', e, _, hc'⟩ := O1.out.ri.cell hxn
            injection e with e; injection e with e1 e2 e3
            subst e1 e2
            exact ⟨_, by have := hc' x hxn; rwa [Nat.zero_add] at this⟩
          obtain ⟨v2, hv2⟩ : ∃ v, wr.cell? ⟨g2, x, none⟩ = some v := by
            obtain ⟨b', o', e, _, hc'⟩ := O2.out.ri.cell hxn
            injection e with e; injection e with e1 e2 e3
            subst e1 e2
            exact ⟨_, by have := hc' x hxn; rwa [Nat.zero_add] at this⟩
          have f1 : wr.frozen? ⟨g1, x, none⟩ = false := O1.out.2.frozenAt x
          have f2 : wr.frozen? ⟨g2, x, none⟩ = false := O2.out.2.frozenAt x
          have i1 : (0 : Int) ≤ (x : Int) := by omega
          have i2 : (x : Int) < (n : Int) := by omega
          have i3 : (0 : Int) ≤ (k : Int) := by omega
          have i4 : (k : Int) < (n : Int) := by omega
          have i5 : (k : Int) < (m : Int) := by omega
          have hg1 : w1.heap.size ≤ g1 := (O1.out.blk g1 rfl).1
          have hg2 : w1.heap.size ≤ g2 := (O2.out.blk g2 rfl).1
          -- the first store
          obtain ⟨wv, hwv⟩ : ∃ wv, wv = wr.setCell ⟨g1, x, none⟩ (.int .i64 (k : Int)) := ⟨_, rfl⟩
          have O1v : Hid (OI wv w1.heap.size (some ⟨g1, 0, none⟩) n n (bkE zs (k + 1))) := Lib.hid (by rw [hwv, HD1.out]; exact O1.out.stored x _)
          have O2v : Hid (OI wv w1.heap.size (some ⟨g2, 0, none⟩) n n (bkW zs us k)) := Lib.hid (by rw [hwv]; exact O2.out.offOf (fun e => H12.out e.symm) _ _)
          have HCv : Hid (Cell2 wv b5 (.slice (some ⟨g1, 0, none⟩) n n) (.slice (some ⟨g2, 0, none⟩) n n)) := Lib.hid (by rw [hwv]; exact cellFar HC5.out _ (fun e => H51.out e.symm) _)
          have HNv : Hid (Below w1.heap.size w1 wv) := Lib.hid (by rw [hwv]; exact HN.out.setCell hg1 _)
          have HPv : Hid (Cell2 wv w.heap.size (.slice (some ⟨ba, oa, none⟩) n c) (.slice (some ⟨be, oe, none⟩) m d)) := cellBelow HP (by have := cz; omega) HNv.out
          have k1v : wv.cell? ⟨be, oe + k, none⟩ = some (.int .i64 y) := by
            rw [hwv, World.cell?_setCell_other _ _ _ _ (by
              intro e
              have h1 : g1 = be := congrArg Addr.block e
              obtain ⟨b'', o'', e'', hb'', _⟩ := HE0.out.2.2 (by omega)
              injection e'' with e''; injection e'' with e1 e2 e3
              have h3 := HB.out.size
              omega)]
            exact k1
          have hv2v : wv.cell? ⟨g2, x, none⟩ = some v2 := by rw [hwv, World.cell?_setCell_other _ _ _ _ (by intro e; exact H12.out (congrArg Addr.block e))]; exact hv2
          have f2v : wv.frozen? ⟨g2, x, none⟩ = false := O2v.out.2.frozenAt x
          have HWV := Lib.hid hwv
          have HX := Lib.hid hx; have HY := Lib.hid hy
          clear hca hce hra hre hwv hx hy
          go_upto_region 9 with fail
          rw [← HWV.out]
          clear k0 k1 hv1 hv2 f1 f2 a0 a1 q0 q1
          have a0 := HPv.out.c0; have a1 := HPv.out.c1
          have q0 := HCv.out.c0; have q1 := HCv.out.c1
          go_region
          all_goals
            go_wp2
            go_roundw
            case rel =>
              refine ⟨k + 1, by omega, by go_num, ?_, ?_, ?_, ?_⟩
              · exact (cellDrew (Lib.hid (cellFar HCv.out ⟨g2, x, none⟩ (fun e => H52.out e.symm) (.int .i64 (-y))))).out
              · exact oiD5 (O1v.out.offOf (k := g2) (fun e => H12.out e) x (.int .i64 (-y)))
              · rw [HD2.out]; exact oiD5 (O2v.out.stored x (-y))
              · exact (HNv.out.setCell hg2 _).drew
            case measure => simp [intOf]; omega
        · obtain rfl : k = n := by omega
          have hz5 := HB5.out
          have HCs := cellBelow HC cz HN.out
          have s0 := HCs.out.c0; have s1 := HCs.out.c1; have sf0 := HCs.out.f0; have sf1 := HCs.out.f1; have sz := HCs.out.lt
          have HZ := Lib.hid HZL.out
          go_wp2
          refine bodyPost_ret (v := .tuple #[.agg #[.slice (some ⟨g1, 0, none⟩) k k, .slice (some ⟨g2, 0, none⟩) k k], .bool true]) (by simp [results, Try.results21, go_sem, s0, s1]) rfl
            ⟨_, _, _, _, rfl, ?_, ?_, (HBr.out.setCell (by simp) _).setCell (by simp) _⟩
          · exact ((O1.out.setBelow (p := ⟨w.heap.size + 1, 0, none⟩) cz _).setBelow (p := ⟨w.heap.size + 1, 1, none⟩) cz _).ri
          · exact ((O2.out.setBelow (p := ⟨w.heap.size + 1, 0, none⟩) cz _).setBelow (p := ⟨w.heap.size + 1, 1, none⟩) cz _).ri
end Go.Proofs.Ytijddnllacphfaa
