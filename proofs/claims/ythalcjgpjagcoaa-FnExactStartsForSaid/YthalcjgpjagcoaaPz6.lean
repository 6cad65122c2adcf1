/- StartsFor of the model. -/
import Derived.Test.YthalcjgpjagcoaaPz4
import Derived.Test.YthalcjgpjagcoaaLB
import Derived.Test.YthalcjgpjagcoaaFl1
import Derived.Lib.OthersKept
namespace Go.Proofs.Ythalcjgpjagcoaa
open Go Go.RowKit Go.Lib

/-- whoever starts at k comes to the prize -/
def sfP (t p : ByteArray) (k : Nat) : Bool := decide (bg t k = bg p 0)
def sfB (W : Int) (zs : List Int) (s p : ByteArray) : Bool := pzB W zs s && prB p 1
def sfL (W : Int) (zs : List Int) (s p : ByteArray) : List Int := if sfB W zs s p = true then fltL (sfP (pzT W zs s) p) W.toNat else []
theorem sfB_1 {W : Int} {zs : List Int} {s p : ByteArray} (h : pzB W zs s = false) : sfB W zs s p = false := by unfold sfB; rw [h]; rfl
theorem sfB_2 {W : Int} {zs : List Int} {s p : ByteArray} (h : prB p 1 = false) : sfB W zs s p = false := by unfold sfB; rw [h]; simp
theorem sfB_3 {W : Int} {zs : List Int} {s p : ByteArray} (h : pzB W zs s = true) (h2 : prB p 1 = true) : sfB W zs s p = true := by unfold sfB; rw [h, h2]; rfl
theorem sfL_no {W : Int} {zs : List Int} {s p : ByteArray} (h : sfB W zs s p = false) : sfL W zs s p = [] := by unfold sfL; rw [h]; rfl
theorem sfL_yes {W : Int} {zs : List Int} {s p : ByteArray} (h : sfB W zs s p = true) : sfL W zs s p = fltL (sfP (pzT W zs s) p) W.toNat := by unfold sfL; rw [if_pos h]
theorem sfL_len (W : Int) (zs : List Int) (s p : ByteArray) : (sfL W zs s p).length ≤ 1000 := by
  unfold sfL
  split
  · rename_i h
    unfold sfB pzB at h
    rw [Bool.and_eq_true, Bool.and_eq_true] at h
    have h1 := (lad_iff.1 h.1.1).1
    have := fltL_len (sfP (pzT W zs s) p) W.toNat
    omega
  · simp
theorem one_text {p : ByteArray} (h : p.size = 1) : p = ⟨#[p.data.toList.getD 0 0]⟩ := by
  have e := ext1 (s := p) (x := 0) (by omega)
  rw [← e]
  apply ByteArray.ext
  rw [ByteArray.data_extract]
  have h2 : p.data.size = 1 := h
  apply Array.ext
  · simp [h2]
  · intro i h1 h3
    have hi : i = 0 := by omega
    subst hi
    simp
theorem sf_cmp {t p : ByteArray} {k : Nat} (hp : p.size = 1) : (((⟨#[t.data.toList.getD k 0]⟩ : ByteArray).toList == p.toList)) = sfP t p k := by
  have e := one_text hp
  unfold sfP bg
  obtain ⟨a, ha⟩ : ∃ a, a = t.data.toList.getD k 0 := ⟨_, rfl⟩
  obtain ⟨b, hb⟩ : ∃ b, b = p.data.toList.getD 0 0 := ⟨_, rfl⟩
  rw [← ha, ← hb]
  rw [← hb] at e
  rw [e, ByteArray.toList_eq, ByteArray.toList_eq]
  show ([a] == [b]) = _
  by_cases h : a = b
  · subst h; simp
  · have h2 : ¬ a.toNat = b.toNat := fun e2 => h (UInt8.toNat_inj.1 e2)
    rw [decide_eq_false h2, beq_eq_false_iff_ne]
    intro e2; injection e2 with e2 _; exact h e2

/-- where the iterator in block k stands -/
def itPos (w : World) (k : Nat) : Nat := match w.heap[k]? with | some (.stringIter _ p) => p | _ => 0
theorem itPos_of {w : World} {k : Nat} {s : ByteArray} {p : Nat} (h : w.heap[k]? = some (.stringIter s p)) : itPos w k = p := by unfold itPos; rw [h]
theorem oiIter {w : World} {B : Nat} {A : Option Addr} {n c : Nat} {zs : List Int} (h : OI w B A n c zs) {k : Nat} (hk : k < B) (s : ByteArray) (pos : Nat) : OI (w.iterAt k s pos) B A n c zs :=
  h.kept (row := some k) ⟨rfl, rfl, rfl, by rw [iterAt_size]; exact Nat.le_refl _, fun i _ hne => iterAt_other w k i s pos (fun e => hne (by rw [e]))⟩ (fun b hb e => by have := (h.blk b hb).1; injection e with e; omega)

set_option maxRecDepth 100000 in
set_option maxHeartbeats 2000000 in
theorem sStartsFor_any (W : Int) (A : Option Addr) (n c : Nat) (zs : List Int) (s p : ByteArray) (w : World) (h : RI w A n zs) (hn : n ≤ 1048576) :
    Calls Try.prog 30 #[.agg #[.int .i64 W, .slice A n c], .string s, .string p] w (FreshIB w (sfL W zs s p).length (sfL W zs s p) (sfB W zs s p)) := by
  have hl := h.1
  have HA := boxNew (W := W) (c := c) 29 h
  have HB := belAlloc (belRefl (w := w)) (.cells #[.int .i64 W, .slice A n c] 29)
  have HI := Lib.hid (fun w2 (r : RI w2 A n zs) => laGood_any W A n c zs w2 r hn)
  rcases hq : lad W zs with _ | _
  · have e := sfB_1 (p := p) (pzB_1 (s := s) hq)
    rw [sfL_no e, e]
    rw [hq] at HI
    clear hq h e
    go_enter Try.func30, Try.ntmps30
    go_wp2_with fail
    refine (HI.out _ HA.out.ri).mono ?_
    rintro e w1 ⟨rfl, hb⟩
    replace HB := belStep HB hb
    clear hb
    go_wp2
    go_ret2
    exact ⟨none, 0, rfl, OI.none_ _ _, HB.out⟩
  · rw [hq] at HI
    have hW := (lad_iff.1 hq).1
    have HP := Lib.hid (fun w2 => mrPrizes_any s W w2 (by omega))
    rcases hp : prB s W with _ | _
    · have e := sfB_1 (p := p) (pzB_2 (zs := zs) hp)
      rw [sfL_no e, e]
      rw [hp] at HP
      clear hq h e hp
      go_enter Try.func30, Try.ntmps30
      go_wp2_with fail
      refine (HI.out _ HA.out.ri).mono ?_
      rintro e w1 ⟨rfl, hb⟩
      replace HA := boxStep HA hb; replace HB := belStep HB hb
      have a0 := HA.out.c0; have a1 := HA.out.c1; have az := HA.out.lt
      clear hb
      go_wp2_with (go_at_call 53; refine (HP.out _).mono ?_; rintro e w' ⟨rfl, rfl⟩)
      go_ret2
      exact ⟨none, 0, rfl, OI.none_ _ _, HB.out⟩
    · rw [hp] at HP
      have HP1 := Lib.hid (fun w2 => mrPrizes_any p 1 w2 (by omega))
      rcases hp1 : prB p 1 with _ | _
      · have e := sfB_2 (W := W) (zs := zs) (s := s) hp1
        rw [sfL_no e, e]
        rw [hp1] at HP1
        clear hq h e hp hp1
        go_enter Try.func30, Try.ntmps30
        go_wp2_with fail
        refine (HI.out _ HA.out.ri).mono ?_
        rintro e w1 ⟨rfl, hb⟩
        replace HA := boxStep HA hb; replace HB := belStep HB hb
        have a0 := HA.out.c0; have a1 := HA.out.c1; have az := HA.out.lt
        clear hb
        go_wp2_with (go_at_call 53; (with_reducible first | refine (HP.out _).mono ?_ | refine (HP1.out _).mono ?_); rintro e w' ⟨rfl, rfl⟩)
        go_ret2
        exact ⟨none, 0, rfl, OI.none_ _ _, HB.out⟩
      · have ez := pzB_3 hq hp
        have e := sfB_3 ez hp1
        rw [sfL_yes e, e, pzT_yes ez]
        rw [hp1] at HP1
        have hsz := prB_size hp
        have hps : p.size = 1 := by have := prB_size hp1; omega
        have hn60 : n ≤ 60 := by have := (lad_iff.1 hq).2.1; omega
        obtain ⟨N, rfl⟩ : ∃ N : Nat, W = (N : Int) := ⟨W.toNat, by omega⟩
        rw [Int.toNat_natCast]
        have HG := Lib.hid (fun w2 (r : RI w2 A n zs) => mrGiven_any N A n c zs s w2 r hn60 hq (by omega))
        have htz := gvt_size zs s N
        have HASC : Hid (∀ k, k < N → bg (gvt zs s N) k < 128) := fun k hk => by
          rw [bg_gvt zs s N k hk]
          have h1 := at_le (W := (N : Int)) (zs := zs) (s := (k : Int)) (fun j hj => lad_at hq hj) (by omega) zs.length (Nat.le_refl _)
          have h2 : ltrB s = true := by unfold prB at hp; rw [Bool.and_eq_true] at hp; exact hp.1
          have h3 := ltrB_iff.1 h2 (endOf zs (k : Int)).toNat (by unfold endOf; omega)
          omega
        obtain ⟨t, ht⟩ : ∃ t, t = gvt zs s N := ⟨_, rfl⟩
        rw [← ht] at HG HASC htz ⊢
        have HCMP := Lib.hid (fun k => sf_cmp (t := t) (p := p) (k := k) hps)
        obtain ⟨B, hB⟩ : ∃ B, B = sfP t p := ⟨_, rfl⟩
        rw [← hB] at HCMP ⊢
        clear hq h e hp hp1 ez hB ht hsz
        go_enter Try.func30, Try.ntmps30
        go_wp2_with fail
        refine (HI.out _ HA.out.ri).mono ?_
        rintro e w1 ⟨rfl, hb⟩
        replace HA := boxStep HA hb; replace HB := belStep HB hb
        have a0 := HA.out.c0; have a1 := HA.out.c1; have az := HA.out.lt
        clear hb
        go_wp2_with (first
          | (go_at_call 53; (with_reducible first | refine (HP.out _).mono ?_ | refine (HP1.out _).mono ?_); rintro e w' ⟨rfl, rfl⟩)
          | (go_at_call 54; refine (HG.out _ HA.out.ri).mono ?_; rintro e w3 ⟨rfl, hb⟩; have HB3 := belStep HB hb; clear hb))
        have hz3 := HB3.out.size
        obtain ⟨kb, hkb⟩ : ∃ kb, kb = w3.heap.size := ⟨_, rfl⟩
        obtain ⟨wi0, hwi0⟩ : ∃ v : World, v = w3.iter t 0 := ⟨_, rfl⟩
        have HIT0 : Hid (wi0.heap[kb]? = some (.stringIter t 0)) := by show _ = _; rw [hwi0, hkb]; exact World.iter_heap _ _ _
        have HBI0 : Hid (Below w3.heap.size w3 wi0) := by show Below _ _ _; rw [hwi0]; exact (Below.refl _ _).alloc (Nat.le_refl _) _
        rw [← hkb, ← hwi0]
        rw [← hkb] at HBI0
        have hz4 : w.heap.size ≤ kb := by omega
        have HKB := Lib.hid hkb
        clear hkb hwi0
        go_loopw [8] (fun v wr => ∃ (k : Nat) (A1 : Option Addr) (c1 : Nat), k ≤ N ∧ v = .slice A1 (fltL B k).length c1 ∧ wr.heap[kb]? = some (.stringIter t k) ∧ OI wr (kb + 1) A1 (fltL B k).length c1 (fltL B k) ∧ Below kb w3 wr) (fun _ wr => N + 1 - itPos wr kb)
        case atStart => exact ⟨0, none, 0, Nat.zero_le _, rfl, HIT0.out, OI.none_ _ _, HBI0.out⟩
        case round =>
          obtain ⟨k, A1, c1, hk, rfl, hit, ho, hb⟩ := hrel
          have HO := Lib.hid ho
          have HR := Lib.hid hb
          have HIT := Lib.hid hit
          have hkz : kb < wr.heap.size := (Array.getElem?_eq_some_iff.1 hit).1
          have hul := fltL_len B k
          by_cases hlt : k < N
          · have hkt : k < t.size := by omega
            have hbk := HASC.out k hlt
            rw [← bg_at hkt] at hbk
            have hnx := fun ty => run_next_ascii_at (P := Try.prog) wr kb t k ty hit hkt hbk
            obtain ⟨cc, hcc⟩ : ∃ cc, cc = (t[k]'hkt).toNat := ⟨_, rfl⟩
            obtain ⟨wi, hwi⟩ : ∃ v : World, v = wr.iterAt kb t (k + 1) := ⟨_, rfl⟩
            rw [← hcc, ← hwi] at hnx
            have HIT2 : Hid (wi.heap[kb]? = some (.stringIter t (k + 1))) := by show _ = _; rw [hwi]; exact iterAt_heap _ _ _ _ _ hit
            have HO2 : Hid (OI wi (kb + 1) A1 (fltL B k).length c1 (fltL B k)) := by show OI _ _ _ _ _ _; rw [hwi]; exact oiIter HO.out (Nat.lt_succ_self _) _ _
            have HR2 : Hid (Below kb w3 wi) := by show Below _ _ _; rw [hwi]; exact below_iterAt HR.out (Nat.le_refl _) _ _
            have hkz2 : kb < wi.heap.size := by rw [hwi, iterAt_size]; exact hkz
            have hsl : ∀ w', (Instr.slice 9 (.string t) (some (.int .i64 (k : Int))) (some (.int .i64 ((k : Int) + 1))) none).run Try.prog w' = .ok (.string ⟨#[t.data.toList.getD k 0]⟩) w' := by
              intro w'
              have i3 : ((k : Int) + 1).toNat = k + 1 := by omega
              rw [run_slice_string_if w' 9 t .i64 .i64 _ _ Try.underlying9, if_pos (by omega), if_pos (by omega), i3, Int.toNat_natCast, ext1 hkt]
            have hcmp := HCMP.out k
            obtain ⟨T, hT⟩ : ∃ T : ByteArray, T = ⟨#[t.data.toList.getD k 0]⟩ := ⟨_, rfl⟩
            rw [← hT] at hsl hcmp
            have hw1 : IntKind.i64.wrap ((k : Int) + 1) = (k : Int) + 1 := IntWalk.i64_in _ (by omega)
            clear hit ho hb hbk hcc hwi hT
            rcases hq : B k with _ | _
            · rw [hq] at hcmp
              have HF := Lib.hid (fltL_no hq)
              clear hq
              go_wp2
              go_roundw
              case rel => exact ⟨k + 1, A1, c1, by omega, by rw [HF.out], HIT2.out, by rw [HF.out]; exact HO2.out, HR2.out⟩
              case measure => rw [itPos_of HIT2.out, itPos_of HIT.out]; omega
            · rw [hq] at hcmp
              have HF := Lib.hid (fltL_yes hq)
              have HFL : Hid ((fltL B k).length + 1 = (fltL B (k + 1)).length) := by show _ = _; rw [HF.out]; simp
              clear hq
              go_wp2_with (at_builtin; refine wpList_append_int _ rfl _ _ rfl (kb + 1) A1 (fltL B k).length c1 _ (k : Int) wi.heap.size rfl rfl (HO2.out.alloc _) (by simp) (by omega) (by simp; omega) ?_; intro A3 c3 w4 ho3 hg3)
              have HIT3 : Hid (w4.heap[kb]? = some (.stringIter t (k + 1))) := by
                show _ = _
                rw [hg3.block kb (by simp; omega) (fun e => by have := (HO2.out.blk kb e.symm).1; omega), Below.heap_alloc _ _ _ hkz2]
                exact HIT2.out
              go_roundw
              case rel =>
                refine ⟨k + 1, A3, c3, by omega, by rw [← HFL.out], HIT3.out, by rw [← HFL.out, HF.out]; exact ho3, ?_⟩
                exact (HR2.out.alloc (by omega) _).trans (ofMark (HO2.out.alloc _) hg3 (Nat.le_succ _) (by simp; omega))
              case measure => rw [itPos_of HIT3.out, itPos_of HIT.out]; omega
          · obtain rfl : k = N := by omega
            have hnx := fun ty => run_next_end_at (P := Try.prog) wr kb t k ty hit (by omega)
            have HBf : Hid (Below w.heap.size w wr) := HB3.out.trans (HR.out.mono hz4)
            clear hit ho hb
            go_wp2
            go_ret2
            exact ⟨A1, c1, rfl, HO.out.mono (by omega), HBf.out⟩
end Go.Proofs.Ythalcjgpjagcoaa
