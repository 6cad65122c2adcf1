/- The places at which one is around a pole, of the program. -/
import Derived.Test.YtijddnllacphfaaPq1
import Derived.Test.YtijddnllacphfaaMgC
import Derived.Test.YtijddnllacphfaaUl1
import Derived.Deep.RegionHeld3
namespace Go.Proofs.Ytijddnllacphfaa
open Go Go.RowKit

/-- the first k places, two numbers each -/
def plF (W : Int) (zs : List Int) (s : Int) (k : Nat) : List Int := (List.range k).flatMap fun i => [pat W zs s i, pwd W zs s i]
theorem plF_succ (W : Int) (zs : List Int) (s : Int) (k : Nat) : plF W zs s (k + 1) = plF W zs s k ++ [pat W zs s k, pwd W zs s k] := by
  unfold plF; rw [List.range_succ, List.flatMap_append]; simp
theorem plF_length (W : Int) (zs : List Int) (s : Int) : ∀ k, (plF W zs s k).length = k * 2
  | 0 => rfl
  | k + 1 => by rw [plF_succ, List.length_append, plF_length W zs s k]; simp; omega
theorem gi_plF (W : Int) (zs : List Int) (s : Int) : ∀ {n k : Nat}, k < n → gi (plF W zs s n) (k * 2) = pat W zs s k ∧ gi (plF W zs s n) (k * 2 + 1) = pwd W zs s k
  | 0, k, h => absurd h (by omega)
  | n + 1, k, h => by
    rw [plF_succ]
    have hl := plF_length W zs s n
    by_cases e : k = n
    · subst e
      unfold gi
      simp only [List.getD_eq_getElem?_getD]
      rw [List.getElem?_append_right (by omega), List.getElem?_append_right (by omega), hl]
      simp
    · have h1 := gi_plF W zs s (n := n) (k := k) (by omega)
      unfold gi at h1 ⊢
      simp only [List.getD_eq_getElem?_getD] at h1 ⊢
      rw [List.getElem?_append_left (by omega), List.getElem?_append_left (by omega)]
      exact h1

theorem OPq.setBelow {w : World} {B : Nat} {A : Option Addr} {n c : Nat} {F : List Int} (h : OPq w B A n c F) {p : Addr} (hp : p.block < B) (u : Value) : OPq (w.setCell p u) B A n c F :=
  ⟨h.1, ownsRow_setCell_below h.2 hp u⟩

def FreshPq (w : World) (n : Nat) (F : List Int) (e : Ending) (w' : World) : Prop :=
  ∃ A c, e = .returned (.slice A n c) ∧ OPq w' w.heap.size A n c F ∧ Below w.heap.size w w'

set_option maxRecDepth 100000 in
set_option maxHeartbeats 4000000 in
theorem places_any (W : Int) (A : Option Addr) (n c : Nat) (zs : List Int) (s : Int) (w : World) (h : RI w A n zs) (hw : PWires W zs s) :
    Calls Try.prog 86 #[.agg #[.int .i64 W, .slice A n c], .int .i64 s] w (FreshPq w (n + 1) (plF W zs s (n + 1))) := by
  have hzl := Lib.hid h.1
  have HW := Lib.hid hw
  have hn60 : n ≤ 60 := by have := hw.len; rw [h.1] at this; exact this
  have hW3 := hw.W3; have hW8 := hw.W8
  have H0 : Hid (RB w w.heap.size A n zs) := RB.of_ri h
  clear hw h
  go_enter Try.func86, Try.ntmps86
  go_wp2
  have HX : Hid (BoxB (w.alloc (.cells #[.int .i64 W, .slice A n c] 45)) (w.heap.size + 1) w.heap.size W A n c zs) := by
    have h1 := BoxB.of (boxNew (W := W) (c := c) 45 H0.out.ri).out
    rwa [World.size_alloc] at h1
  go_loopw [6, 8, 16] (fun v _ i wr => ∃ (k : Nat) (A1 : Option Addr) (c1 : Nat), k ≤ n ∧ i = .int .i64 k ∧ v = .slice A1 (k + 1) c1 ∧ Cell2 wr (w.heap.size + 1) (.int .i64 (pat W zs s k)) (.int .i64 (pwd W zs s k)) ∧ OPq wr (w.heap.size + 2) A1 (k + 1) c1 (plF W zs s (k + 1)) ∧ Below (w.heap.size + 1) (w.alloc (.cells #[.int .i64 W, .slice A n c] 45)) wr) (fun _ _ i _ => n - (intOf i).toNat)
  case atStart =>
    refine ⟨0, _, _, Nat.zero_le _, rfl, rfl, ?_, ?_, ?_⟩
    · have h1 := cellAlloc (cellNew (w.alloc (.cells #[.int .i64 W, .slice A n c] 45)) (.int .i64 s) (.int .i64 0) 63) (.cells #[.int .i64 s, .int .i64 0] 63)
      simp only [World.size_alloc] at h1
      exact h1.out
    · have h1 := OPq.lit ((w.alloc (.cells #[.int .i64 W, .slice A n c] 45)).alloc (.cells #[.int .i64 s, .int .i64 0] 63)) (w.heap.size + 2) s 0 (by simp)
      simp only [World.size_alloc] at h1
      exact h1
    · exact ((Below.refl _ _).alloc (by simp) _).alloc (by simp) _
  case round =>
    obtain ⟨k, A1, c1, hk, rfl, rfl, hc2, hoq, hbl⟩ := hrel
    have HC := Lib.hid hc2
    have HQ := Lib.hid hoq
    have HB := Lib.hid hbl
    have HBX : Hid (BoxB wr (w.heap.size + 1) w.heap.size W A n c zs) := HX.out.step hbl
    have a0 := HBX.out.c0; have a1 := HBX.out.c1
    have hsz := HB.out.size
    simp only [World.size_alloc] at hsz
    clear hc2 hoq hbl
    by_cases hlt : k < n
    · obtain ⟨b, off, rfl, hbw, hc⟩ := HBX.out.rb.ri.cell hlt
      have hck := hc k hlt
      have g1 := HW.out.rg k (by rw [hzl.out]; exact hlt)
      have g2 := HW.out.at (k := k) (by rw [hzl.out]; omega)
      have g3 := pwd_le W zs s k
      have HT := Lib.hid (plF_succ W zs s (k + 1))
      have HS1 := Lib.hid (pat_succ W zs s k)
      have HS2 := Lib.hid (pwd_succ W zs s k)
      have HO := Lib.hid (placeOver_any (pat W zs s k) (pwd W zs s k) W (gi zs k) · (by omega) (by omega) g1 (by omega))
      rw [← HS1.out, ← HS2.out] at HO
      obtain ⟨p, hp⟩ : ∃ p, p = pat W zs s k := ⟨_, rfl⟩
      obtain ⟨q, hq⟩ : ∃ q, q = pwd W zs s k := ⟨_, rfl⟩
      obtain ⟨p', hp'⟩ : ∃ p, p = pat W zs s (k + 1) := ⟨_, rfl⟩
      obtain ⟨q', hq'⟩ : ∃ q, q = pwd W zs s (k + 1) := ⟨_, rfl⟩
      rw [← hp, ← hq] at HC HO
      rw [← hp', ← hq'] at HO HT
      have HP' := Lib.hid hp'; have HQ' := Lib.hid hq'
      have k0 := HC.out.c0; have k1 := HC.out.c1; have f0 := HC.out.f0; have f1 := HC.out.f1; have kz := HC.out.lt
      clear hc hp hq hp' hq' g2 g3 HS1 HS2
      go_wp2_with fail
      refine (HO.out _).mono ?_
      rintro e w2 ⟨rfl, hb⟩
      replace HC := cellStep HC hb
      have HQ2 : Hid (OPq w2 (w.heap.size + 2) A1 (k + 1) c1 (plF W zs s (k + 1))) := Lib.hid (HQ.out.below hb)
      have HB2 : Hid (Below (w.heap.size + 1) (w.alloc (.cells #[.int .i64 W, .slice (some ⟨b, off, none⟩) n c] 45)) w2) := Lib.hid (HB.out.trans (hb.mono (by omega)))
      have hs2 := hb.size
      replace k0 := HC.out.c0; replace k1 := HC.out.c1; replace f0 := HC.out.f0; replace f1 := HC.out.f1; replace kz := HC.out.lt
      replace a0 := (hb.cell (p := ⟨w.heap.size, 0, none⟩) (by show w.heap.size < _; omega)).trans a0
      replace a1 := (hb.cell (p := ⟨w.heap.size, 1, none⟩) (by show w.heap.size < _; omega)).trans a1
      clear hb HO hck
      obtain ⟨wv, hwv⟩ : ∃ wv, wv = (w2.setCell ⟨w.heap.size + 1, 0, none⟩ (.int .i64 p')).setCell ⟨w.heap.size + 1, 1, none⟩ (.int .i64 q') := ⟨_, rfl⟩
      have hwz : w2.heap.size = wv.heap.size := by rw [hwv]; simp
      have HQ3 : Hid (OPq (wv.alloc (.cells #[.int .i64 p', .int .i64 q'] 63)) (w.heap.size + 2) A1 (k + 1) c1 (plF W zs s (k + 1))) := Lib.hid (by rw [hwv]; exact ((HQ2.out.setBelow (by simp) _).setBelow (by simp) _).alloc _)
      have HN := cellNew wv (.int .i64 p') (.int .i64 q') 63
      rw [← hwz] at HN
      have HW2 : Hid (Cell2 wv (w.heap.size + 1) (.int .i64 p') (.int .i64 q')) := Lib.hid ⟨by rw [hwv, World.cell?_setCell_other _ _ _ _ (by simp)]; exact World.cell?_setCell_same _ _ _ k0, by rw [hwv]; exact World.cell?_setCell_same _ _ _ (by rw [World.cell?_setCell_other _ _ _ _ (by simp)]; exact k1), by rw [hwv]; simpa [go_sem] using f0, by rw [hwv]; simpa [go_sem] using f1, by rw [← hwz]; exact kz⟩
      have HB3 : Hid (Below (w.heap.size + 1) (w.alloc (.cells #[.int .i64 W, .slice (some ⟨b, off, none⟩) n c] 45)) (wv.alloc (.cells #[.int .i64 p', .int .i64 q'] 63))) := Lib.hid (by rw [hwv]; exact ((HB2.out.setCell (by simp) _).setCell (by simp) _).alloc (by simp; omega) _)
      have HWV := Lib.hid hwv
      have HWZ := Lib.hid hwz
      clear hwv hwz
      go_wp2_with (at_builtin; rw [← HWV.out]; go_must (refine wpList_append_place _ rfl _ _ rfl (w.heap.size + 2) A1 (k + 1) c1 _ w2.heap.size 1 p' q' rfl rfl HQ3.out HN.out.c0 HN.out.c1 (by omega) (by have := HWZ.out; simp; omega) ?_); intro A3 c3 w3 ho3 hg3)
      have HCh : Hid (Chg (wv.alloc (.cells #[.int .i64 p', .int .i64 q'] 63)) w3 (w.heap.size + 2) w2.heap.size) := Lib.hid (Chg.of_grown hg3 (fun x hx => HQ2.out.blk x hx))
      go_roundw
      case rel =>
        refine ⟨k + 1, A3, c3, by omega, by go_num, rfl, ?_, by rw [HT.out]; exact ho3, ?_⟩
        · rw [← HP'.out, ← HQ'.out]
          exact (c2Chg (cellAlloc HW2 _) HCh.out (.inl (Nat.lt_succ_self _))).out
        · exact HB3.out.trans (HCh.out.below (by omega) (by have := HWZ.out; simp; omega))
      case measure => simp [intOf]; omega
    · obtain rfl : k = n := by omega
      go_wp2
      go_ret
      exact ⟨A1, c1, rfl, HQ.out.mono (by omega), ((Below.refl _ _).alloc (Nat.le_refl _) _).trans (HB.out.mono (by omega))⟩
end Go.Proofs.Ytijddnllacphfaa
