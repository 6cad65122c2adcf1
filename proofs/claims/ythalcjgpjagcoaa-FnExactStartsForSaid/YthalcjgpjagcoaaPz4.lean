/- PrizesOf, of the program and of its model. -/
import Derived.Test.YthalcjgpjagcoaaPz3
namespace Go.Proofs.Ythalcjgpjagcoaa
open Go Go.RowKit

def pzB (W : Int) (zs : List Int) (s : ByteArray) : Bool := lad W zs && prB s W
def pzT (W : Int) (zs : List Int) (s : ByteArray) : ByteArray := if pzB W zs s = true then gvt zs s W.toNat else ⟨#[]⟩
theorem pzB_1 {W : Int} {zs : List Int} {s : ByteArray} (h : lad W zs = false) : pzB W zs s = false := by unfold pzB; rw [h]; rfl
theorem pzB_2 {W : Int} {zs : List Int} {s : ByteArray} (h : prB s W = false) : pzB W zs s = false := by unfold pzB; rw [h]; simp
theorem pzB_3 {W : Int} {zs : List Int} {s : ByteArray} (h : lad W zs = true) (h2 : prB s W = true) : pzB W zs s = true := by unfold pzB; rw [h, h2]; rfl
theorem pzT_no {W : Int} {zs : List Int} {s : ByteArray} (h : pzB W zs s = false) : pzT W zs s = ⟨#[]⟩ := by unfold pzT; rw [h]; rfl
theorem pzT_yes {W : Int} {zs : List Int} {s : ByteArray} (h : pzB W zs s = true) : pzT W zs s = gvt zs s W.toNat := by unfold pzT; rw [if_pos h]
theorem prB_size {s : ByteArray} {N : Int} (h : prB s N = true) : (s.size : Int) = N := by
  unfold prB at h; rw [Bool.and_eq_true] at h; exact of_decide_eq_true h.2
/-- a text and a bool -/
def RetSB (t : ByteArray) (b : Bool) (w : World) (e : Ending) (w' : World) : Prop := e = .returned (.tuple #[.string t, .bool b]) ∧ Below w.heap.size w w'
theorem infoU8 : (Try.prog.info? 5).map (fun i => (i.zero, i.size, i.bytes)) = some (some (.int .u8 0), 1, 1) := by kernel_rfl

set_option maxRecDepth 100000 in
set_option maxHeartbeats 2000000 in
theorem sPrizesOf_any (W : Int) (A : Option Addr) (n c : Nat) (zs : List Int) (s : ByteArray) (w : World) (h : RI w A n zs) (hn : n ≤ 1048576) :
    Calls Try.prog 28 #[.agg #[.int .i64 W, .slice A n c], .string s] w (RetSB (pzT W zs s) (pzB W zs s) w) := by
  have hl := h.1
  have HA := boxNew (W := W) (c := c) 29 h
  have HB := belAlloc (belRefl (w := w)) (.cells #[.int .i64 W, .slice A n c] 29)
  have HI := Lib.hid (fun w2 (r : RI w2 A n zs) => laGood_any W A n c zs w2 r hn)
  rcases hq : lad W zs with _ | _
  · rw [pzT_no (pzB_1 hq), pzB_1 hq]
    rw [hq] at HI
    clear hq h
    go_enter Try.func28, Try.ntmps28
    go_wp2_with fail
    refine (HI.out _ HA.out.ri).mono ?_
    rintro e w1 ⟨rfl, hb⟩
    replace HB := belStep HB hb
    clear hb
    go_wp2
    go_ret2
    exact ⟨rfl, HB.out⟩
  · rw [hq] at HI
    have hW := (lad_iff.1 hq).1
    have hn60 : n ≤ 60 := by have := (lad_iff.1 hq).2.1; omega
    have HP := Lib.hid (fun w2 => mrPrizes_any s W w2 (by omega))
    rcases hp : prB s W with _ | _
    · rw [pzT_no (pzB_2 hp), pzB_2 hp]
      rw [hp] at HP
      clear hq h hp
      go_enter Try.func28, Try.ntmps28
      go_wp2_with fail
      refine (HI.out _ HA.out.ri).mono ?_
      rintro e w1 ⟨rfl, hb⟩
      replace HA := boxStep HA hb; replace HB := belStep HB hb
      have a0 := HA.out.c0; have a1 := HA.out.c1; have az := HA.out.lt
      clear hb
      go_wp2_with (go_at_call 53; refine (HP.out _).mono ?_; rintro e w' ⟨rfl, rfl⟩)
      go_ret2
      exact ⟨rfl, HB.out⟩
    · rw [pzT_yes (pzB_3 hq hp), pzB_3 hq hp]
      rw [hp] at HP
      have hsz := prB_size hp
      obtain ⟨N, rfl⟩ : ∃ N : Nat, W = (N : Int) := ⟨W.toNat, by omega⟩
      rw [Int.toNat_natCast]
      have HG := Lib.hid (fun w2 (r : RI w2 A n zs) => mrGiven_any N A n c zs s w2 r hn60 hq (by omega))
      obtain ⟨g, hg⟩ : ∃ g, g = gvt zs s N := ⟨_, rfl⟩
      rw [← hg] at HG ⊢
      clear hq h hp hg hsz
      go_enter Try.func28, Try.ntmps28
      go_wp2_with fail
      refine (HI.out _ HA.out.ri).mono ?_
      rintro e w1 ⟨rfl, hb⟩
      replace HA := boxStep HA hb; replace HB := belStep HB hb
      have a0 := HA.out.c0; have a1 := HA.out.c1; have az := HA.out.lt
      clear hb
      go_wp2_with (first
        | (go_at_call 53; refine (HP.out _).mono ?_; rintro e w' ⟨rfl, rfl⟩)
        | (go_at_call 54; refine (HG.out _ HA.out.ri).mono ?_; rintro e w2 ⟨rfl, hb⟩; have HB2 := belStep HB hb; clear hb))
      go_ret2
      exact ⟨rfl, HB2.out⟩

set_option maxRecDepth 100000 in
set_option maxHeartbeats 2000000 in
theorem iPrizesOf_any (W : Int) (A : Option Addr) (n c : Nat) (zs : List Int) (s : ByteArray) (w : World) (h : RI w A n zs) (hn : n ≤ 1048576) (hs9 : s.size ≤ 1000000000) :
    Calls Try.prog 29 #[.agg #[.int .i64 W, .slice A n c], .string s] w (RetSB (pzT W zs s) (pzB W zs s) w) := by
  have hl := h.1
  have HA := boxNew (W := W) (c := c) 29 h
  have HB := belAlloc (belRefl (w := w)) (.cells #[.int .i64 W, .slice A n c] 29)
  have HI := Lib.hid (fun w2 (r : RI w2 A n zs) => iResultOf_any W A n c zs w2 r hn)
  rcases hq : lad W zs with _ | _
  · rw [pzT_no (pzB_1 hq), pzB_1 hq]
    rw [hq, resN_no hq] at HI
    clear hq h
    go_enter Try.func29, Try.ntmps29
    go_wp2_with fail
    refine (HI.out _ HA.out.ri).mono ?_
    rintro e w1 ⟨A1, c1, rfl, ho, hb⟩
    replace HB := belStep HB hb
    clear hb
    go_wp2
    go_ret2
    exact ⟨rfl, HB.out⟩
  · have hW := (lad_iff.1 hq).1
    have hn60 : n ≤ 60 := by have := (lad_iff.1 hq).2.1; omega
    obtain ⟨N, rfl⟩ : ∃ N : Nat, W = (N : Int) := ⟨W.toNat, by omega⟩
    have hrl : (resN (N : Int) zs).length = N := by rw [resN_yes hq, res_length, Int.toNat_natCast]
    rw [hq, hrl, resN_yes hq, Int.toNat_natCast] at HI
    have HP := Lib.hid (fun w2 => areLetters_any s (N : Int) w2 hs9)
    rcases hp : prB s (N : Int) with _ | _
    · rw [pzT_no (pzB_2 hp), pzB_2 hp]
      rw [hp] at HP
      clear hq h hp
      go_enter Try.func29, Try.ntmps29
      go_wp2_with fail
      refine (HI.out _ HA.out.ri).mono ?_
      rintro e w1 ⟨A1, c1, rfl, ho, hb⟩
      replace HA := boxStep HA hb; replace HB := belStep HB hb
      have a0 := HA.out.c0; have a1 := HA.out.c1; have az := HA.out.lt
      clear hb ho
      go_wp2_with (go_at_call 56; refine (HP.out _).mono ?_; rintro e w2 ⟨rfl, hb⟩)
      replace HB := belStep HB hb
      go_ret2
      exact ⟨rfl, HB.out⟩
    · rw [pzT_yes (pzB_3 hq hp), pzB_3 hq hp, Int.toNat_natCast]
      rw [hp] at HP
      have hsz := prB_size hp
      have hmk := run_make_row' (P := Try.prog) 64 5 (.int .u8 0) 1 Try.underlying64 infoU8 rfl .i64 .i64 N (by omega) (by omega)
      have HE := Lib.hid (fun i (hi : i < N) => (show 0 ≤ endOf zs (i : Int) ∧ endOf zs (i : Int) ≤ 7 ∧ endOf zs (i : Int) < (N : Int) by
        have h1 := at_le (W := (N : Int)) (zs := zs) (s := (i : Int)) (fun j hj => lad_at hq hj) (by omega) zs.length (Nat.le_refl _)
        unfold endOf
        omega))
      have HCV : Hid (∀ (w' : World) (g : Nat), (∀ j, j < N → w'.cell? ⟨g, j, none⟩ = some (.int .u8 (bg s (endOf zs (j : Int)).toNat : Int))) → (convert 64 9 (.slice (some ⟨g, 0, none⟩) N N)).run Try.prog w' = .ok (.string (gvt zs s N)) w') := by
        intro w' g hc
        have hL : (gvl zs s N).length = N := gvl_len _ _ _
        have := run_convert_bytes_back w' 64 9 5 ⟨g, 0, none⟩ N (gvl zs s N) Try.underlying64 Try.underlying5 Try.underlying9 (fun j hj => by
          have hj' : j < N := by omega
          have h1 := hc j hj'
          have h2 := gvl_at zs s N j hj'
          rw [List.getElem?_eq_getElem hj] at h2
          injection h2 with h2
          rw [h2]
          unfold bg at h1
          unfold gvb
          have e : (⟨g, 0, none⟩ : Addr).add j = ⟨g, j, none⟩ := by simp [Addr.add]; intro h; exact h.symm
          rw [e]
          exact h1)
        rw [hL] at this
        exact this
      clear hq h hp
      go_enter Try.func29, Try.ntmps29
      go_wp2_with fail
      refine (HI.out _ HA.out.ri).mono ?_
      rintro e w1 ⟨A1, c1, rfl, ho, hb⟩
      replace HA := boxStep HA hb; replace HB := belStep HB hb
      have a0 := HA.out.c0; have a1 := HA.out.c1; have az := HA.out.lt
      have HO := Lib.hid ho
      clear hb ho
      go_wp2_with (go_at_call 56; refine (HP.out _).mono ?_; rintro e w2 ⟨rfl, hb⟩; have HA2 := boxStep HA hb; have HB2 := belStep HB hb; have HO2 := oiStep HO hb; have b0 := HA2.out.c0; have b1 := HA2.out.c1; have bz := HA2.out.lt; clear hb)
      have hz2 := HB2.out.size
      go_loopw [9, 10, 30] (fun _ _ i wr => ∃ k : Nat, k ≤ N ∧ i = .int .i64 (k : Int) ∧ wr.rowIs w2.heap.size 5 N (fun j => if j < k then .int .u8 (bg s (endOf zs (j : Int)).toNat : Int) else .int .u8 0) ∧ Below w2.heap.size w2 wr) (fun _ _ i _ => N - (intOf i).toNat)
      case atStart => exact ⟨0, Nat.zero_le _, rfl, (World.rowIs_made w2 (.int .u8 0) N 5).congr (fun j _ => by simp), (Below.refl _ _).alloc (Nat.le_refl _) _⟩
      case round =>
        obtain ⟨k, hk, rfl, hrow, hb⟩ := hrel
        have HOr := oiStep HO2 hb
        have H1 := Lib.hid hrow
        have H2 := Lib.hid hb
        by_cases hlt : k < N
        · obtain ⟨b, off, rfl, hbw, hc⟩ := HOr.out.ri.cell hlt
          have hck := hc k hlt
          rw [gi_res _ _ _ hlt] at hck
          have he := HE.out k hlt
          obtain ⟨x, hx⟩ : ∃ x : Nat, endOf zs (k : Int) = (x : Int) := ⟨(endOf zs (k : Int)).toNat, by omega⟩
          rw [hx] at hck he
          have HX := Lib.hid hx
          have hxs : x < s.size := by omega
          have hbg := bg_at hxs
          obtain ⟨y, hy⟩ : ∃ y, y = bg s x := ⟨_, rfl⟩
          rw [← hy] at hbg
          have HY := Lib.hid hy
          have hdd := hrow.cell hlt
          have hf := hrow.frozen k
          simp only [Nat.lt_irrefl, if_false] at hdd
          have i0 : (0 : Int) ≤ (x : Int) := by omega
          have i1 : (x : Int) < (s.size : Int) := by omega
          clear hrow hb hc hx hy hmk
          go_wp2
          go_roundw
          case rel =>
            refine ⟨k + 1, by omega, by go_num, (H1.out.set k _).congr (fun j hj => ?_), H2.out.setCell (by simp) _⟩
            by_cases e : j = k
            · subst e; simp [HX.out, HY.out]
            · by_cases e2 : j < k
              · simp [e, e2, show j < k + 1 by omega]
              · simp [e, e2, show ¬ j < k + 1 by omega]
          case measure => simp [intOf]; omega
        · obtain rfl : k = N := by omega
          have hcv := HCV.out wr w2.heap.size (fun j hj => by have := H1.out.cell hj; rw [if_pos hj] at this; exact this)
          have HB3 := belStep HB2 H2.out
          clear hrow hb hmk
          go_wp2
          go_ret2
          exact ⟨rfl, HB3.out⟩
end Go.Proofs.Ythalcjgpjagcoaa
