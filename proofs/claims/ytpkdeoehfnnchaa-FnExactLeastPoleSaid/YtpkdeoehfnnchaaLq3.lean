/- What the closure of below tells for each wire. -/
import Derived.Test.YtpkdeoehfnnchaaLq2
import Derived.Test.YtpkdeoehfnnchaaTl1
import Derived.Test.YtpkdeoehfnnchaaPl1
import Derived.Test.YtpkdeoehfnnchaaTo1
import Derived.Test.YtpkdeoehfnnchaaUl2
import Derived.Deep.RegionWith
import Derived.Deep.RegionHeld3
namespace Go.Proofs.Ytpkdeoehfnnchaa
open Go Go.RowKit

set_option maxRecDepth 100000 in
set_option maxHeartbeats 1000000 in
theorem belowTell_any (b5 b3 b2 f : Nat) (A : Option Addr) (n c : Nat) (zs : List Int) (E : Option Addr) (d : Nat) (us : List Int) (r i : Nat) (w : World)
    (c5 : w.cell? ⟨b5, 0, none⟩ = some (.func (.func 50) #[] #[.pointer (some ⟨f, 0, none⟩)])) (c3 : w.cell? ⟨b3, 0, none⟩ = some (.int .i64 (r : Int))) (l5 : b5 < w.heap.size) (l3 : b3 < w.heap.size)
    (q2 : Cell2 w b2 (.slice A n c) (.slice E n d)) (qf : Cell2 w f (.slice A n c) (.slice E n d)) (h : RI w A n zs) (g : RI w E n us)
    (hn : 3 ≤ n ∧ n ≤ 8) (hi : i < n) (hr : r < n) (hu : ∀ j, j < n → -20 ≤ gi us j ∧ gi us j ≤ 20) :
    Calls Try.prog 44 #[.agg #[.int .i64 (i : Int), .int .i64 0], .pointer (some ⟨b5, 0, none⟩), .pointer (some ⟨b3, 0, none⟩), .pointer (some ⟨b2, 0, none⟩)] w (RetP2 (gi (topE zs r (nxtR n r)) i) (gi (topW us r (nxtR n r) (wndR n r)) i) w) := by
  have hz := h.1; have hul := g.1
  have t12 := top_tell (i := i) hn.1 hz hul hr
  have hps := pstep_nat (n := n) (r := r) (i := i) hr
  have hpn : xch r (nxtR n r) i < n := xch_lt hr (nxtR_lt hr) hi
  have hdv := pwind_le (n : Int) (i : Int) (r : Int)
  have hO := fun w' => placeOver_any (i : Int) 0 (n : Int) (r : Int) w' (by omega) (by omega) (by omega) (by omega)
  rw [t12.1, t12.2, hps, Int.toNat_natCast]
  simp only [hps, Int.zero_add] at hO
  obtain ⟨p, hp⟩ : ∃ p, p = xch r (nxtR n r) i := ⟨_, rfl⟩
  obtain ⟨dv, hd⟩ : ∃ dv, dv = pwind (n : Int) (i : Int) (r : Int) := ⟨_, rfl⟩
  rw [← hp] at hpn hO ⊢
  rw [← hd] at hdv hO ⊢
  have hup := hu p hpn
  have HO := Lib.hid hO
  have HT : Hid (∀ w' : World, Cell2 w' f (.slice A n c) (.slice E n d) → RI w' A n zs → RI w' E n us → Calls Try.prog 50 #[.agg #[.int .i64 (p : Int), .int .i64 dv], .pointer (some ⟨f, 0, none⟩)] w' (RetP2 (gi zs p) (dv + gi us p) w')) := by
    intro w' hc r1 r2
    exact tell_any f A n c zs E n d us p dv w' hc.c0 hc.c1 hc.lt r1 r2 hpn hpn (by omega) (by omega) (by omega) (by omega)
  obtain ⟨x, hx⟩ : ∃ x, x = gi zs p := ⟨_, rfl⟩
  obtain ⟨y, hy⟩ : ∃ y, y = dv + gi us p := ⟨_, rfl⟩
  rw [← hx, ← hy] at HT ⊢
  have R1 : Hid (RB w w.heap.size A n zs) := RB.of_ri h
  have R2 : Hid (RB w w.heap.size E n us) := RB.of_ri g
  have Q2 := Lib.hid q2; have QF := Lib.hid qf
  have L2 := q2.lt; have LF := qf.lt
  have C5 := Lib.hid c5; have C3 := Lib.hid c3
  clear h g q2 qf hx hy hup hu hdv hps t12 hO hd hp hz hul hn hi hr hpn
  go_enter Try.func44, Try.ntmps44
  obtain ⟨w0, hw0⟩ : ∃ w0, w0 = (w.alloc (.cells #[.int .i64 (i : Int), .int .i64 0] 53)).alloc (.cells #[.int .i64 0, .int .i64 0] 53) := ⟨_, rfl⟩
  have HB : Hid (Below w.heap.size w w0) := by rw [hw0]; exact belAlloc (belAlloc belRefl _) _
  have HP : Hid (Cell2 w0 w.heap.size (.int .i64 (i : Int)) (.int .i64 0)) := by rw [hw0]; exact cellAlloc (cellNew w _ _ 53) _
  have HC : Hid (Cell2 w0 (w.heap.size + 1) (.int .i64 0) (.int .i64 0)) := by
    have h1 := cellNew (w.alloc (.cells #[.int .i64 (i : Int), .int .i64 0] 53)) (.int .i64 0) (.int .i64 0) 53
    simp only [World.size_alloc] at h1
    rw [hw0]; exact h1
  have hS : Hid (∀ w' : World, Below w.heap.size w w' → Cell2 w' w.heap.size (.int .i64 (i : Int)) (.int .i64 0) → (fun w' => w'.cell? ⟨b5, 0, none⟩ = some (.func (.func 50) #[] #[.pointer (some ⟨f, 0, none⟩)]) ∧ w'.cell? ⟨w.heap.size, 0, none⟩ = some (.int .i64 (i : Int)) ∧ w'.cell? ⟨w.heap.size, 1, none⟩ = some (.int .i64 0) ∧ w'.cell? ⟨b3, 0, none⟩ = some (.int .i64 (r : Int)) ∧ w'.cell? ⟨b2, 0, none⟩ = some (.slice A n c)) w') :=
    fun w' hb hc => ⟨(hb.cell (p := ⟨b5, 0, none⟩) l5).trans C5.out, hc.c0, hc.c1, (hb.cell (p := ⟨b3, 0, none⟩) l3).trans C3.out, (hb.cell (p := ⟨b2, 0, none⟩) L2).trans Q2.out.c0⟩
  clear c5 c3
  go_upto_region 1 with fail
  rw [← hw0]
  clear hw0
  have HBd := belDrew HB
  have HPd := cellDrew HP
  have HCd := cellDrew HC
  refine wp_region_held_drew (S := (fun w' => w'.cell? ⟨b5, 0, none⟩ = some (.func (.func 50) #[] #[.pointer (some ⟨f, 0, none⟩)]) ∧ w'.cell? ⟨w.heap.size, 0, none⟩ = some (.int .i64 (i : Int)) ∧ w'.cell? ⟨w.heap.size, 1, none⟩ = some (.int .i64 0) ∧ w'.cell? ⟨b3, 0, none⟩ = some (.int .i64 (r : Int)) ∧ w'.cell? ⟨b2, 0, none⟩ = some (.slice A n c))) (by kernel_rfl) ?_ (fun hHeld => ?_)
  · exact hS.out _ HBd.out HPd.out
  refine wpAnyH_take (i := 0) (v := ?_) rfl (by kernel_rfl) (by kernel_rfl) (by kernel_rfl) (fun _ _ _ h => h) (Or.inl ⟨by kernel_rfl, ?_⟩) hHeld ?_
  rotate_left
  · (intro w hSw; (try dsimp only at hSw); (first | (go_simp; done) | (go_simp; with_reducible rfl)))
  try simp only [Act.put, List.getElem_toArray, List.getElem_cons_zero, List.setIfInBounds_toArray, List.set_cons_zero, List.set_cons_succ]
  refine wpAnyH_take (i := 1) (v := ?_) rfl (by kernel_rfl) (by kernel_rfl) (by kernel_rfl) (fun _ _ _ h => h) (Or.inl ⟨by kernel_rfl, ?_⟩) hHeld ?_
  rotate_left
  · (intro w hSw; (try dsimp only at hSw); (first | (go_simp; done) | (go_simp; with_reducible rfl)))
  try simp only [Act.put, List.getElem_toArray, List.getElem_cons_zero, List.getElem_cons_succ, List.setIfInBounds_toArray, List.set_cons_zero, List.set_cons_succ]
  refine wpAnyH_take (i := 2) (v := ?_) rfl (by kernel_rfl) (by kernel_rfl) (by kernel_rfl) (fun _ _ _ h => h) (Or.inl ⟨by kernel_rfl, ?_⟩) hHeld ?_
  rotate_left
  · (intro w hSw; (try dsimp only at hSw); (first | (go_simp; done) | (go_simp; with_reducible rfl)))
  try simp only [Act.put, List.getElem_toArray, List.getElem_cons_zero, List.getElem_cons_succ, List.setIfInBounds_toArray, List.set_cons_zero, List.set_cons_succ]
  refine wpAnyH_take (i := 3) (v := ?_) rfl (by kernel_rfl) (by kernel_rfl) (by kernel_rfl) (fun _ _ _ h => h) (Or.inl ⟨by kernel_rfl, ?_⟩) hHeld ?_
  rotate_left
  · (intro w hSw; (try dsimp only at hSw); (first | (go_simp; done) | (go_simp; with_reducible rfl)))
  try simp only [Act.put, List.getElem_toArray, List.getElem_cons_zero, List.getElem_cons_succ, List.setIfInBounds_toArray, List.set_cons_zero, List.set_cons_succ]
  refine wpAnyH_take (i := 4) (v := ?_) rfl (by kernel_rfl) (by kernel_rfl) (by kernel_rfl) (fun _ _ _ h => h) (Or.inl ⟨by kernel_rfl, ?_⟩) hHeld ?_
  rotate_left
  · (intro w hSw; (try dsimp only at hSw); (first | (go_simp; done) | (go_simp; with_reducible rfl)))
  try simp only [Act.put, List.getElem_toArray, List.getElem_cons_zero, List.getElem_cons_succ, List.setIfInBounds_toArray, List.set_cons_zero, List.set_cons_succ]
  refine wpAnyH_take (i := 5) (v := ?_) rfl (by kernel_rfl) (by kernel_rfl) (by kernel_rfl) (fun _ _ _ h => h) (Or.inl ⟨by kernel_rfl, ?_⟩) hHeld ?_
  rotate_left
  · (intro w hSw; (try dsimp only at hSw); (first | (go_simp; done) | (go_simp; with_reducible rfl)))
  try simp only [Act.put, List.getElem_toArray, List.getElem_cons_zero, List.getElem_cons_succ, List.setIfInBounds_toArray, List.set_cons_zero, List.set_cons_succ]
  refine wpAnyH_ready (rs := [6]) (by kernel_rfl) (by simp) ?_
  refine AllReadyH.cons rfl (fun K hK => ?_) AllReadyH.nil
  simp only [List.getElem_toArray, List.getElem_cons_zero, List.getElem_cons_succ]
  go_simp
  (go_at_call 45; refine (HO.out _).mono ?_; rintro e w1 ⟨rfl, hb⟩; have HB1 := belStep HBd hb; have HC1 := cellStep HCd hb; have HP1 := cellStep HPd hb; clear hb)
  clear hHeld
  refine hK.out _ _ ?_ (fun hHeld => ?_)
  · exact hS.out _ HB1.out HP1.out
  clear hK K
  try simp only [Act.put, List.getElem_toArray, List.getElem_cons_zero, List.getElem_cons_succ, List.setIfInBounds_toArray, List.set_cons_zero, List.set_cons_succ]
  refine wpAnyH_ready (rs := [7]) (by kernel_rfl) (by simp) ?_
  refine AllReadyH.cons rfl (fun K hK => ?_) AllReadyH.nil
  simp only [List.getElem_toArray, List.getElem_cons_zero, List.getElem_cons_succ]
  go_simp
  (go_at_call 50; refine (HT.out _ (cellBelow QF LF HB1.out).out (rbK R1 HB1.out) (rbK R2 HB1.out)).mono ?_; rintro e w2 ⟨rfl, hb⟩; have HB2 := belStep HB1 hb; have HC2 := cellStep HC1 hb; have HP2 := cellStep HP1 hb; clear hb)
  clear hHeld
  refine hK.out _ _ ?_ (fun hHeld => ?_)
  · exact hS.out _ HB2.out HP2.out
  clear hK K
  try simp only [Act.put, List.getElem_toArray, List.getElem_cons_zero, List.getElem_cons_succ, List.setIfInBounds_toArray, List.set_cons_zero, List.set_cons_succ]
  refine wpAnyH_ready (rs := [8]) (by kernel_rfl) (by simp) ?_
  refine AllReadyH.cons rfl (fun K hK => ?_) AllReadyH.nil
  simp only [List.getElem_toArray, List.getElem_cons_zero, List.getElem_cons_succ]
  have k0 := HC2.out.c0; have k1 := HC2.out.c1; have kf0 := HC2.out.f0; have kf1 := HC2.out.f1; have kz := HC2.out.lt
  go_simp
  clear hHeld
  refine hK.out _ _ ?_ (fun hHeld => ?_)
  · exact hS.out _ (by repeat (first | exact HB2.out | refine Below.setCell ?_ (by simp <;> omega) _)) (by repeat (first | exact HP2.out | refine cellFar ?_ _ (by show w.heap.size + 1 ≠ w.heap.size; omega) _))
  clear hK K
  try simp only [Act.put, List.getElem_toArray, List.getElem_cons_zero, List.getElem_cons_succ, List.setIfInBounds_toArray, List.set_cons_zero, List.set_cons_succ]
  refine wpAnyH_done (by kernel_rfl) ?_ _
  clear hHeld
  go_wp2
  exact bodyPost_ret (v := .agg #[.int .i64 x, .int .i64 y]) (by simp [results, Try.results44, go_sem, k0, k1]) rfl ⟨rfl, (by repeat (first | exact HB2.out | refine Below.setCell ?_ (by simp <;> omega) _))⟩
end Go.Proofs.Ytpkdeoehfnnchaa
