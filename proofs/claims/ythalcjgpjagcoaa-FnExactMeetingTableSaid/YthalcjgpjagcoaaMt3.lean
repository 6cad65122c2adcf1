/- RungsOn, of the program and of its model. -/
import Derived.Test.YthalcjgpjagcoaaMt2
namespace Go.Proofs.Ythalcjgpjagcoaa
open Go Go.RowKit

def usL (zs : List Int) (N : Nat) : List Int := (List.range N).map fun a => usN zs a zs.length
theorem usL_len (zs : List Int) (N : Nat) : (usL zs N).length = N := by simp [usL]
theorem gi_usL (zs : List Int) (N a : Nat) (h : a < N) : gi (usL zs N) a = usN zs a zs.length := by
  rw [gi_lt (by rw [usL_len]; exact h)]; simp [usL]
theorem usL_take (zs : List Int) (N a : Nat) (h : a < N) : (usL zs N).take (a + 1) = (usL zs N).take a ++ [usN zs a zs.length] := by
  rw [List.take_succ_eq_append_getElem (by rw [usL_len]; exact h), ← gi_lt, gi_usL _ _ _ h]
def usT (W : Int) (zs : List Int) : List Int := if lad W zs = true then usL zs W.toNat else []
theorem usT_yes {W : Int} {zs : List Int} (h : lad W zs = true) : usT W zs = usL zs W.toNat := by unfold usT; rw [if_pos h]
theorem usT_no {W : Int} {zs : List Int} (h : lad W zs = false) : usT W zs = [] := by unfold usT; rw [h]; rfl
theorem usT_len1000 (W : Int) (zs : List Int) : (usT W zs).length ≤ 1000 := by
  unfold usT
  split
  · rename_i h
    have := (lad_iff.1 h).1
    rw [usL_len]; omega
  · simp
theorem us_yes {zs : List Int} {a k : Nat} (h : at_ zs (a : Int) k ≠ at_ zs (a : Int) (k + 1)) : usN zs a (k + 1) = usN zs a k + 1 := by simp only [usN]; rw [if_neg h]
theorem us_no {zs : List Int} {a k : Nat} (h : at_ zs (a : Int) k = at_ zs (a : Int) (k + 1)) : usN zs a (k + 1) = usN zs a k := by simp only [usN]; rw [if_pos h]; omega
theorem startAtM {W : Int} {zs : List Int} (h : lad W zs = true) {i : Nat} (hi : (i : Int) < W) : Wires zs (i : Int) :=
  ⟨W, by have := (lad_iff.1 h).1; omega, fun _ hj => lad_at h hj, by omega, by omega⟩

set_option maxRecDepth 100000 in
set_option maxHeartbeats 4000000 in
theorem mrOver_any (N : Nat) (A : Option Addr) (n c : Nat) (zs : List Int) (w : World) (h : RI w A n zs) (hn : n ≤ 60) (hq : lad (N : Int) zs = true) :
    Calls Try.prog 59 #[.agg #[.int .i64 (N : Int), .slice A n c]] w (FreshI w N (usL zs N)) := by
  have hl := h.1
  have hN8 := (lad_iff.1 hq).1
  have HA := boxNew (W := (N : Int)) (c := c) 29 h
  have HB := belAlloc (belRefl (w := w)) (.cells #[.int .i64 (N : Int), .slice A n c] 29)
  have HST := Lib.hid (fun i (hi : i < N) => startAtM hq (i := i) (by omega))
  have HTK : Hid (∀ a, a < N → (usL zs N).take (a + 1) = (usL zs N).take a ++ [usN zs a n]) := fun a ha => by rw [usL_take _ _ _ ha, hl]
  have HLL := Lib.hid (usL_len zs N)
  obtain ⟨U, hU⟩ : ∃ U, U = usL zs N := ⟨_, rfl⟩
  rw [← hU] at HTK HLL ⊢
  clear h hq hU
  go_enter Try.func59, Try.ntmps59
  have a0 := HA.out.c0; have a1 := HA.out.c1; have az := HA.out.lt
  go_wp2
  obtain ⟨ws, hws⟩ : ∃ v : World, v = w.alloc (.cells #[.int .i64 (N : Int), .slice A n c] 29) := ⟨_, rfl⟩
  rw [← hws] at HA HB a0 a1 az ⊢
  have hzs : w.heap.size < ws.heap.size := az
  clear hws
  go_loopw [3, 4] (fun v i wr => ∃ (k : Nat) (A1 : Option Addr) (c1 : Nat), k ≤ N ∧ i = .int .i64 (k : Int) ∧ v = .slice A1 k c1 ∧ OI wr ws.heap.size A1 k c1 (U.take k) ∧ Below ws.heap.size ws wr) (fun _ i _ => N - (intOf i).toNat)
  case atStart => exact ⟨0, none, 0, Nat.zero_le _, rfl, rfl, OI.none_ _ _, Below.refl _ _⟩
  case round =>
    obtain ⟨k, A1, c1, hk, rfl, rfl, ho, hb⟩ := hrel
    have HO := Lib.hid ho
    have HR := Lib.hid hb
    have HAr := boxStep HA hb
    have hbs := hb.size
    replace a0 := HAr.out.c0; replace a1 := HAr.out.c1; replace az := HAr.out.lt
    clear ho hb
    by_cases hlt : k < N
    · have HLD := Lib.hid (fun w2 (r : RI w2 A n zs) => laDown_any A n c zs (k : Int) w2 r (by omega) (HST.out k hlt))
      have HTk := Lib.hid (HTK.out k hlt)
      go_wp2_with (go_at_call 70; refine (HLD.out _ HAr.out.ri).mono ?_; rintro e w2 ⟨A2, c2, rfl, o2, hb⟩; have HO2 := oiStep HO hb; have HR2 := Lib.hid (HR.out.trans (hb.mono hbs)); have HA2 := boxStep HAr hb; have b0 := HA2.out.c0; have b1 := HA2.out.c1; have bz := HA2.out.lt; obtain ⟨g, rfl, _, hgz, hcg⟩ := o2.some_; have HG := Lib.hid hcg; clear o2 hb hcg a0 a1 az)
      go_loopw [6, 7, 21] (fun v _ i wq => ∃ y : Nat, y ≤ n ∧ i = .int .i64 (y : Int) ∧ v = .int .i64 (usN zs k y) ∧ Below w2.heap.size w2 wq) (fun _ _ i _ => n - (intOf i).toNat)
      case atStart => exact ⟨0, Nat.zero_le _, rfl, rfl, Below.refl _ _⟩
      case round =>
        obtain ⟨y, hy, rfl, rfl, hbq⟩ := hrel
        have HBQ := Lib.hid hbq
        have hub := usN_le zs k y
        by_cases hlt2 : y < n
        · have ck : wr.cell? ⟨g, y, none⟩ = some (.int .i64 (at_ zs (k : Int) y)) := (hbq.cell (p := ⟨g, y, none⟩) hgz).trans (by rw [HG.out y (by omega), gi_down _ _ _ (by omega)])
          have ck1 : wr.cell? ⟨g, y + 1, none⟩ = some (.int .i64 (at_ zs (k : Int) (y + 1))) := (hbq.cell (p := ⟨g, y + 1, none⟩) hgz).trans (by rw [HG.out (y + 1) (by omega), gi_down _ _ _ (by omega)])
          have HYes := Lib.hid (fun q => us_yes (zs := zs) (a := k) (k := y) q)
          have HNo := Lib.hid (fun q => us_no (zs := zs) (a := k) (k := y) q)
          obtain ⟨u, hu⟩ : ∃ u, u = at_ zs (k : Int) y := ⟨_, rfl⟩
          obtain ⟨v, hv⟩ : ∃ v, v = at_ zs (k : Int) (y + 1) := ⟨_, rfl⟩
          obtain ⟨t, ht⟩ : ∃ t, t = usN zs k y := ⟨_, rfl⟩
          rw [← hu] at ck HYes HNo
          rw [← hv] at ck1 HYes HNo
          rw [← ht] at hub HYes HNo
          rw [← ht]
          have hwt : IntKind.i64.wrap (t + 1) = t + 1 := IntWalk.i64_in _ (by omega)
          have hyw : IntKind.i64.wrap ((y : Int) + 1) = ((y + 1 : Nat) : Int) := by rw [IntWalk.i64_in _ (by omega)]; omega
          clear hbq hu hv ht
          by_cases he : u = v
          · have e1 : (u != v) = false := by rw [bne_eq_false_iff_eq]; exact he
            have HE := Lib.hid (HNo.out he)
            clear he
            go_wp2
            go_quiet (fail)
            go_wp2
            go_roundw
            case rel => exact ⟨y + 1, by omega, by first | rfl | go_num, by rw [HE.out], below_drewN HBQ.out _⟩
            case measure => simp [intOf]; omega
          · have e1 : (u != v) = true := by rw [bne_iff_ne]; exact he
            have HE := Lib.hid (HYes.out he)
            clear he
            go_wp2
            go_quiet (fail)
            go_wp2
            go_roundw
            case rel => exact ⟨y + 1, by omega, by first | rfl | go_num, by rw [HE.out], below_drewN HBQ.out _⟩
            case measure => simp [intOf]; omega
        · obtain rfl : y = n := by omega
          have HO3 := oiStep HO2 hbq
          have HR3 := Lib.hid (HR2.out.trans (hbq.mono HR2.out.size))
          have hz3 := HR3.out.size
          obtain ⟨t, ht⟩ : ∃ t, t = usN zs k y := ⟨_, rfl⟩
          rw [← ht] at HTk
          rw [← ht]
          clear hbq ht
          go_wp2_with (at_builtin; refine wpList_append_int _ rfl _ _ rfl ws.heap.size A1 k c1 _ t wr.heap.size rfl rfl (HO3.out.alloc _) (by simp) (by omega) (by simp; omega) ?_; intro A3 c3 w3 ho3 hg3)
          go_roundw
          case rel =>
            refine ⟨k + 1, A3, c3, by omega, by go_num, rfl, by rw [HTk.out]; exact ho3, ?_⟩
            exact (HR3.out.alloc hz3 _).trans (ofMark (HO3.out.alloc _) hg3 (Nat.le_refl _) (by simp; omega))
          case measure => simp [intOf]; omega
    · obtain rfl : k = N := by omega
      have e : U.take k = U := List.take_of_length_le (by rw [HLL.out]; exact Nat.le_refl _)
      rw [e] at HO
      have hzb := HB.out.size
      go_wp2
      go_ret
      exact ⟨A1, c1, rfl, HO.out.mono hzb, HB.out.trans (HR.out.mono hzb)⟩

set_option maxRecDepth 100000 in
set_option maxHeartbeats 1000000 in
theorem sRungsOn_any (W : Int) (A : Option Addr) (n c : Nat) (zs : List Int) (w : World) (h : RI w A n zs) (hn : n ≤ 1048576) :
    Calls Try.prog 36 #[.agg #[.int .i64 W, .slice A n c]] w (FreshIB w (usT W zs).length (usT W zs) (lad W zs)) := by
  have hl := h.1
  have HA := boxNew (W := W) (c := c) 29 h
  have HB := belAlloc (belRefl (w := w)) (.cells #[.int .i64 W, .slice A n c] 29)
  have HI := Lib.hid (fun w2 (r : RI w2 A n zs) => laGood_any W A n c zs w2 r hn)
  rcases hq : lad W zs with _ | _
  · rw [usT_no hq]
    rw [hq] at HI
    clear hq h
    go_enter Try.func36, Try.ntmps36
    go_wp2_with fail
    refine (HI.out _ HA.out.ri).mono ?_
    rintro e w1 ⟨rfl, hb⟩
    replace HB := belStep HB hb
    clear hb
    go_wp2
    go_ret2
    exact ⟨none, 0, rfl, OI.none_ _ _, HB.out⟩
  · rw [usT_yes hq]
    rw [hq] at HI
    have hW := (lad_iff.1 hq).1
    have hn60 : n ≤ 60 := by have := (lad_iff.1 hq).2.1; omega
    obtain ⟨N, rfl⟩ : ∃ N : Nat, W = (N : Int) := ⟨W.toNat, by omega⟩
    rw [Int.toNat_natCast, usL_len]
    have HM := Lib.hid (fun w2 (r : RI w2 A n zs) => mrOver_any N A n c zs w2 r hn60 hq)
    clear hq h
    go_enter Try.func36, Try.ntmps36
    go_wp2_with fail
    refine (HI.out _ HA.out.ri).mono ?_
    rintro e w1 ⟨rfl, hb⟩
    replace HA := boxStep HA hb; replace HB := belStep HB hb
    have a0 := HA.out.c0; have a1 := HA.out.c1; have az := HA.out.lt
    have z1 := HB.out.size
    clear hb
    go_wp2_with fail
    refine (HM.out _ HA.out.ri).mono ?_
    rintro e w2 ⟨A2, c2, rfl, ho, hb⟩
    have HO := Lib.hid (ho.mono z1)
    replace HB := belStep HB hb
    clear ho hb
    go_wp2
    go_ret2
    exact ⟨A2, c2, rfl, HO.out, HB.out⟩
end Go.Proofs.Ythalcjgpjagcoaa
