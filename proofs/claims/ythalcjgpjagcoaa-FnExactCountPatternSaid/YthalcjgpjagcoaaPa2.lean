/- The contract of mrPattern, and PatternOf, of the program and of its model. -/
import Derived.Test.YthalcjgpjagcoaaPa1
import Derived.Test.YthalcjgpjagcoaaMr6
import Derived.Test.YthalcjgpjagcoaaMgG
import Derived.Test.YthalcjgpjagcoaaMgD
namespace Go.Proofs.Ythalcjgpjagcoaa
open Go Go.RowKit

set_option maxRecDepth 100000 in
set_option maxHeartbeats 4000000 in
theorem mrPattern_any (A : Option Addr) (n c : Nat) (p : List Int) (E : Option Addr) (m d : Nat) (ps : List Int) (w : World) (h : RI w A n p) (_hn : n ≤ 1048576) (g : RI w E m ps) (hm : m ≤ 1048576) (hp : ∀ j, j < m → 0 ≤ gi ps j ∧ gi ps j < n) :
    Calls Try.prog 46 #[.slice A n c, .slice E m d] w (FreshI w m (ptL p ps)) := by
  have hl := h.1
  have hl2 := g.1
  have H := Lib.hid h
  have G := Lib.hid g
  have HP := Lib.hid hp
  clear h g hp
  go_enter Try.func46, Try.ntmps46
  go_wp2
  go_loopw [5, 13] (fun s i wr => ∃ (k : Nat) (A1 : Option Addr) (c1 : Nat), k ≤ m ∧ i = .int .i64 k ∧ s = .slice A1 k c1 ∧ OI wr w.heap.size A1 k c1 ((ptL p ps).take k) ∧ Below w.heap.size w wr) (fun _ i _ => m - (intOf i).toNat)
  case atStart => exact ⟨0, none, 0, Nat.zero_le _, rfl, rfl, OI.none_ _ _, Below.refl _ _⟩
  case round =>
    obtain ⟨k, A1, c1, hk, rfl, rfl, ho, hb⟩ := hrel
    by_cases hlt : k < m
    · obtain ⟨b2, off2, hE, hbw2, hc2⟩ := G.out.cell hlt
      have hck : wr.cell? ⟨b2, off2 + k, none⟩ = some (.int .i64 (gi ps k)) := (hb.cell (p := ⟨b2, off2 + k, none⟩) hbw2).trans (hc2 k hlt)
      obtain ⟨x, hx⟩ : ∃ x : Nat, gi ps k = (x : Int) := ⟨(gi ps k).toNat, by have := HP.out k hlt; omega⟩
      have hxn : x < n := by have := HP.out k hlt; omega
      rw [hx] at hck
      obtain ⟨b, off, hA, hbw, hc⟩ := H.out.cell hxn
      have HCx : Hid (∀ (w' : World), Below w.heap.size w w' → w'.cell? ⟨b, off + x, none⟩ = some (.int .i64 (gi p x))) := fun w' hb' => (hb'.cell (p := ⟨b, off + x, none⟩) hbw).trans (hc x hxn)
      have HC2 : Hid (∀ (w' : World) (j : Nat), j < m → Below w.heap.size w w' → w'.cell? ⟨b2, off2 + j, none⟩ = some (.int .i64 (gi ps j))) := fun w' j hj hb' => (hb'.cell (p := ⟨b2, off2 + j, none⟩) hbw2).trans (hc2 j hj)
      have HC1 : Hid (∀ (w' : World) (j : Nat), j < n → Below w.heap.size w w' → w'.cell? ⟨b, off + j, none⟩ = some (.int .i64 (gi p j))) := fun w' j hj hb' => (hb'.cell (p := ⟨b, off + j, none⟩) hbw).trans (hc j hj)
      have HTK : Hid ((ptL p ps).take (k + 1) = (ptL p ps).take k ++ [ptN p ps (gi p x) m]) := by show _ = _; rw [ptL_take p ps k (by omega), hx, hl2]; simp
      have HO := Lib.hid ho
      have HB := Lib.hid hb
      subst hA
      subst hE
      obtain ⟨v, hv⟩ : ∃ v, v = gi p x := ⟨_, rfl⟩
      rw [← hv] at HCx HTK
      clear ho hb hc hc2 hx hv
      go_wp2
      obtain ⟨wo, hwo⟩ : ∃ u : World, u = wr := ⟨_, rfl⟩
      subst hwo
      go_loopw [8, 19] (fun s i wq => ∃ y : Nat, y ≤ m ∧ i = .int .i64 y ∧ s = .int .i64 (ptN p ps v y) ∧ Below wo.heap.size wo wq) (fun _ i _ => m - (intOf i).toNat)
      case atStart => exact ⟨0, Nat.zero_le _, rfl, rfl, Below.refl _ _⟩
      case round =>
        obtain ⟨y, hy, rfl, rfl, hbq⟩ := hrel
        have hbb : Below w.heap.size w wr := HB.out.trans (hbq.mono HB.out.size)
        have hcv := HCx.out _ hbb
        by_cases hlt2 : y < m
        · have hcy := HC2.out _ y hlt2 hbb
          obtain ⟨z, hz⟩ : ∃ z : Nat, gi ps y = (z : Int) := ⟨(gi ps y).toNat, by have := HP.out y hlt2; omega⟩
          have hzn : z < n := by have := HP.out y hlt2; omega
          have hcz := HC1.out _ z hzn hbb
          rw [hz] at hcy
          have hpb := ptN_le p ps v y
          have HYes := Lib.hid (fun (q : gi p z < v) => (ptN_yes (p := p) (ps := ps) (v := v) (k := y) (by rw [hz]; exact q)))
          have HNo := Lib.hid (fun (q : ¬ gi p z < v) => (ptN_no (p := p) (ps := ps) (v := v) (k := y) (by rw [hz]; exact q)))
          obtain ⟨u, hu⟩ : ∃ u, u = gi p z := ⟨_, rfl⟩
          rw [← hu] at hcz HYes HNo
          obtain ⟨t, ht⟩ : ∃ t, t = ptN p ps v y := ⟨_, rfl⟩
          rw [← ht] at hpb HYes HNo
          rw [← ht]
          have HBQ := Lib.hid hbq
          have HT := Lib.hid ht
          have hwt : IntKind.i64.wrap (t + 1) = t + 1 := IntWalk.i64_in _ (by omega)
          clear hbq hbb hz hu ht
          by_cases huv : u < v
          · have HE := Lib.hid (HYes.out huv)
            go_wp2
            go_quiet (fail)
            go_wp2
            go_roundw
            case rel => exact ⟨y + 1, by omega, by go_num, by rw [HE.out], below_drewN HBQ.out _⟩
            case measure => simp [intOf]; omega
          · have HE := Lib.hid (HNo.out huv)
            have hvu : v ≤ u := by omega
            clear huv
            go_wp2
            go_quiet (fail)
            go_wp2
            go_roundw
            case rel => exact ⟨y + 1, by omega, by go_num, by rw [HE.out], below_drewN HBQ.out _⟩
            case measure => simp [intOf]; omega
        · obtain rfl : y = m := by omega
          have HO2 := oiStep HO hbq
          have HB2 := Lib.hid (HB.out.trans (hbq.mono HB.out.size))
          have hbz := hbq.size
          have hbz2 := HB.out.size
          clear hbq hbb hcv
          obtain ⟨t, ht⟩ : ∃ t, t = ptN p ps v y := ⟨_, rfl⟩
          rw [← ht] at HTK
          rw [← ht]
          clear ht
          go_wp2_with (at_builtin; refine wpList_append_int _ rfl _ _ rfl w.heap.size A1 k c1 _ t wr.heap.size rfl rfl (HO2.out.alloc _) (by simp) (by omega) (by simp; omega) ?_; intro A2 c2 w2 ho2 hg2)
          go_roundw
          case rel =>
            refine ⟨k + 1, A2, c2, by omega, by go_num, rfl, by rw [HTK.out]; exact ho2, (belGrown (belAlloc HB2 _) (HO2.out.alloc _) hg2 (Nat.le_refl _)).out⟩
          case measure => simp [intOf]; omega
    · obtain rfl : k = m := by omega
      have e : (ptL p ps).take k = ptL p ps := List.take_of_length_le (by rw [ptL_len]; omega)
      rw [e] at ho
      go_wp2
      go_ret
      exact ⟨A1, c1, rfl, ho, hb⟩

def poB (p ps : List Int) : Bool := ord p && (rsB ps p.length && decide (1 ≤ ps.length))
def poL (p ps : List Int) : List Int := if poB p ps = true then ptL p ps else []
theorem poB_1 {p ps : List Int} (h : ord p = false) : poB p ps = false := by unfold poB; rw [h]; rfl
theorem poB_2 {p ps : List Int} (h : rsB ps p.length = false) : poB p ps = false := by unfold poB; rw [h]; simp
theorem poB_3 {p ps : List Int} (h : ps.length < 1) : poB p ps = false := by unfold poB; rw [decide_eq_false (by omega)]; simp
theorem poB_iff {p ps : List Int} : poB p ps = true ↔ ord p = true ∧ rsB ps p.length = true ∧ 1 ≤ ps.length := by
  unfold poB; rw [Bool.and_eq_true, Bool.and_eq_true, decide_eq_true_iff]
theorem poL_yes {p ps : List Int} (h : poB p ps = true) : poL p ps = ptL p ps := by unfold poL; rw [if_pos h]
theorem poL_no {p ps : List Int} (h : poB p ps = false) : poL p ps = [] := by unfold poL; rw [h]; rfl

set_option maxRecDepth 100000 in
set_option maxHeartbeats 2000000 in
theorem iPatternOf_any (A : Option Addr) (n c : Nat) (p : List Int) (E : Option Addr) (m d : Nat) (ps : List Int) (w : World) (h : RI w A n p) (hn : n ≤ 1048576) (_hnc : n ≤ c) (g : RI w E m ps) (hm : m ≤ 1048576) (_hmd : m ≤ d) :
    Calls Try.prog 22 #[.slice A n c, .slice E m d] w (FreshIB w (poL p ps).length (poL p ps) (poB p ps)) := by
  have hl := h.1
  have hl2 := g.1
  have HO := Lib.hid (iIsOrder_any A n c p w h (by omega))
  rcases hq : ord p with _ | _
  · rw [poL_no (poB_1 hq), poB_1 hq]
    rw [hq] at HO
    clear hq h g
    go_enter Try.func22, Try.ntmps22
    go_wp2_with fail
    refine HO.out.mono ?_
    rintro e w1 ⟨rfl, hb⟩
    have HB := Lib.hid hb
    clear hb
    go_wp2
    go_ret2
    exact ⟨none, 0, rfl, OI.none_ _ _, HB.out⟩
  · rw [hq] at HO
    have h8 : 1 ≤ n ∧ n ≤ 8 := by have := ord_iff.1 hq; omega
    have HR := Lib.hid (fun w2 (r : RI w2 E m ps) => areIndices_any E m d ps (n : Int) w2 r hm (by omega))
    rcases hr : rsB ps (n : Int) with _ | _
    · have e : poB p ps = false := poB_2 (by rw [hl]; exact hr)
      rw [poL_no e, e]
      rw [hr] at HR
      have G := Lib.hid g
      clear hq h g hr e
      go_enter Try.func22, Try.ntmps22
      go_wp2_with fail
      refine HO.out.mono ?_
      rintro e w1 ⟨rfl, hb⟩
      have HB := Lib.hid hb
      have G1 := Lib.hid (G.out.below hb (Nat.le_refl _))
      clear hb
      go_wp2_with (go_at_call 48; refine (HR.out _ G1.out).mono ?_; rintro e w' ⟨rfl, rfl⟩)
      go_ret2
      exact ⟨none, 0, rfl, OI.none_ _ _, HB.out⟩
    · rw [hr] at HR
      have G := Lib.hid g
      have H := Lib.hid h
      by_cases hm1 : m < 1
      · have e : poB p ps = false := poB_3 (by omega)
        rw [poL_no e, e]
        clear hq h g hr e
        go_enter Try.func22, Try.ntmps22
        go_wp2_with fail
        refine HO.out.mono ?_
        rintro e w1 ⟨rfl, hb⟩
        have HB := Lib.hid hb
        have G1 := Lib.hid (G.out.below hb (Nat.le_refl _))
        clear hb
        go_wp2_with (go_at_call 48; refine (HR.out _ G1.out).mono ?_; rintro e w' ⟨rfl, rfl⟩)
        go_ret2
        exact ⟨none, 0, rfl, OI.none_ _ _, HB.out⟩
      · have e : poB p ps = true := poB_iff.2 ⟨hq, by rw [hl]; exact hr, by omega⟩
        rw [poL_yes e, e, ptL_len, hl2]
        have hm2 : 1 ≤ m := by omega
        have hm3 : (1 : Int) ≤ (m : Int) := by omega
        have HIX := Lib.hid (fun j (hj : j < m) => (show 0 ≤ gi ps j ∧ gi ps j < (n : Int) by have := (rsB_iff.1 hr).1 j (by omega); omega))
        clear hq h g hr e hm1
        go_enter Try.func22, Try.ntmps22
        go_wp2_with fail
        refine HO.out.mono ?_
        rintro e w1 ⟨rfl, hb⟩
        have HB := Lib.hid hb
        have G1 := Lib.hid (G.out.below hb (Nat.le_refl _))
        have H1 := Lib.hid (H.out.below hb (Nat.le_refl _))
        have hz := hb.size
        clear hb
        go_wp2_with (first
          | (go_at_call 48; refine (HR.out _ G1.out).mono ?_; rintro e w' ⟨rfl, rfl⟩)
          | (go_at_call 49; refine (patternAt_any A n c p E m d ps _ H1.out hn G1.out hm HIX.out).mono ?_; rintro e w2 ⟨A2, c2, rfl, o2, hb⟩))
        go_ret2
        exact ⟨A2, c2, rfl, o2.mono hz, HB.out.trans (hb.mono hz)⟩

set_option maxRecDepth 100000 in
set_option maxHeartbeats 2000000 in
theorem sPatternOf_any (A : Option Addr) (n c : Nat) (p : List Int) (E : Option Addr) (m d : Nat) (ps : List Int) (w : World) (h : RI w A n p) (hn : n ≤ 1048576) (hnc : n ≤ c) (g : RI w E m ps) (hm : m ≤ 1048576) (_hmd : m ≤ d) :
    Calls Try.prog 20 #[.slice A n c, .slice E m d] w (FreshIB w (poL p ps).length (poL p ps) (poB p ps)) := by
  have hl := h.1
  have hl2 := g.1
  have HO := Lib.hid (laOrder_any A n c p w h hn hnc)
  rcases hq : ord p with _ | _
  · rw [poL_no (poB_1 hq), poB_1 hq]
    rw [hq] at HO
    clear hq h g
    go_enter Try.func20, Try.ntmps20
    go_wp2_with fail
    refine HO.out.mono ?_
    rintro e w1 ⟨rfl, rfl⟩
    go_wp2
    go_ret2
    exact ⟨none, 0, rfl, OI.none_ _ _, Below.refl _ _⟩
  · rw [hq] at HO
    have h8 : 1 ≤ n ∧ n ≤ 8 := by have := ord_iff.1 hq; omega
    have HR := Lib.hid (mrRising_any E m d ps (n : Int) w g hm (by omega))
    by_cases hm1 : m < 1
    · have e : poB p ps = false := poB_3 (by omega)
      rw [poL_no e, e]
      obtain rfl : m = 0 := by omega
      clear hq h g e hm1
      go_enter Try.func20, Try.ntmps20
      go_wp2_with fail
      refine HO.out.mono ?_
      rintro e w1 ⟨rfl, rfl⟩
      go_wp2
      go_ret2
      exact ⟨none, 0, rfl, OI.none_ _ _, Below.refl _ _⟩
    · have hm2 : ((m : Int) == 0) = false := beq_eq_false_iff_ne.2 (by omega)
      rcases hr : rsB ps (n : Int) with _ | _
      · have e : poB p ps = false := poB_2 (by rw [hl]; exact hr)
        rw [poL_no e, e]
        rw [hr] at HR
        clear hq h g hr e hm1
        go_enter Try.func20, Try.ntmps20
        go_wp2_with fail
        refine HO.out.mono ?_
        rintro e w1 ⟨rfl, rfl⟩
        go_wp2_with (go_at_call 45; refine HR.out.mono ?_; rintro e w' ⟨rfl, hb⟩)
        go_ret2
        exact ⟨none, 0, rfl, OI.none_ _ _, hb⟩
      · rw [hr] at HR
        have G := Lib.hid g
        have H := Lib.hid h
        have e : poB p ps = true := poB_iff.2 ⟨hq, by rw [hl]; exact hr, by omega⟩
        rw [poL_yes e, e, ptL_len, hl2]
        have HIX := Lib.hid (fun j (hj : j < m) => (show 0 ≤ gi ps j ∧ gi ps j < (n : Int) by have := (rsB_iff.1 hr).1 j (by omega); omega))
        clear hq h g hr e hm1
        go_enter Try.func20, Try.ntmps20
        go_wp2_with fail
        refine HO.out.mono ?_
        rintro e w1 ⟨rfl, rfl⟩
        go_wp2_with (first
          | (go_at_call 45; refine HR.out.mono ?_; rintro e w2 ⟨rfl, hb⟩; have HB := Lib.hid hb; have G1 := Lib.hid (G.out.below hb (Nat.le_refl _)); have H1 := Lib.hid (H.out.below hb (Nat.le_refl _)); have hz := hb.size; clear hb)
          | (go_at_call 46; refine (mrPattern_any A n c p E m d ps _ H1.out hn G1.out hm HIX.out).mono ?_; rintro e w3 ⟨A2, c2, rfl, o2, hb⟩))
        go_ret2
        exact ⟨A2, c2, rfl, o2.mono hz, HB.out.trans (hb.mono hz)⟩
theorem poL_len (p ps : List Int) : (poL p ps).length ≤ 1000 := by
  unfold poL
  split
  · rename_i h
    have h := poB_iff.1 h
    have h8 := (ord_iff.1 h.1)
    rw [ptL_len]
    have hr := rsB_iff.1 h.2.1
    have : ∀ j, j < ps.length → (j : Int) ≤ gi ps j := by
      intro j
      induction j with
      | zero => intro hj; exact (hr.1 0 hj).1
      | succ j ih => intro hj; have := ih (by omega); have := hr.2 j hj; omega
    have h2 := h.2.2
    have := this (ps.length - 1) (by omega)
    have := (hr.1 (ps.length - 1) (by omega)).2
    omega
  · simp
end Go.Proofs.Ythalcjgpjagcoaa
