/- Patterns: mathematics, and the contracts of patternAt and of mrPattern. -/
import Derived.Test.YthalcjgpjagcoaaMgD
import Derived.Test.YthalcjgpjagcoaaMgB
import Derived.Test.YthalcjgpjagcoaaMgC
namespace Go.Proofs.Ythalcjgpjagcoaa
open Go Go.RowKit

/-- how many of the first k places have less than v -/
def ptN (p ps : List Int) (v : Int) : Nat → Int
  | 0 => 0
  | k + 1 => ptN p ps v k + (if gi p (gi ps k).toNat < v then 1 else 0)
def ptL (p ps : List Int) : List Int := ps.map fun i => ptN p ps (gi p i.toNat) ps.length
theorem ptN_le (p ps : List Int) (v : Int) (k : Nat) : 0 ≤ ptN p ps v k ∧ ptN p ps v k ≤ k := by
  induction k with
  | zero => simp [ptN]
  | succ k ih => simp only [ptN]; split <;> omega
theorem ptN_yes {p ps : List Int} {v : Int} {k : Nat} (h : gi p (gi ps k).toNat < v) : ptN p ps v (k + 1) = ptN p ps v k + 1 := by simp [ptN, h]
theorem ptN_no {p ps : List Int} {v : Int} {k : Nat} (h : ¬ gi p (gi ps k).toNat < v) : ptN p ps v (k + 1) = ptN p ps v k := by simp [ptN, h]
theorem ptL_len (p ps : List Int) : (ptL p ps).length = ps.length := by simp [ptL]
theorem gi_ptL (p ps : List Int) (j : Nat) (h : j < ps.length) : gi (ptL p ps) j = ptN p ps (gi p (gi ps j).toNat) ps.length := by
  rw [gi_lt (by rw [ptL_len]; exact h), gi_lt h]; simp [ptL]
theorem ptL_take (p ps : List Int) (j : Nat) (h : j < ps.length) : (ptL p ps).take (j + 1) = (ptL p ps).take j ++ [ptN p ps (gi p (gi ps j).toNat) ps.length] := by
  rw [List.take_succ_eq_append_getElem (by rw [ptL_len]; exact h), ← gi_lt, gi_ptL _ _ _ h]

set_option maxRecDepth 100000 in
set_option maxHeartbeats 4000000 in
theorem patternAt_any (A : Option Addr) (n c : Nat) (p : List Int) (E : Option Addr) (m d : Nat) (ps : List Int) (w : World) (h : RI w A n p) (_hn : n ≤ 1048576) (g : RI w E m ps) (hm : m ≤ 1048576) (hp : ∀ j, j < m → 0 ≤ gi ps j ∧ gi ps j < n) :
    Calls Try.prog 49 #[.slice A n c, .slice E m d] w (FreshI w m (ptL p ps)) := by
  have hl := h.1
  have hl2 := g.1
  have H := Lib.hid h
  have G := Lib.hid g
  have HP := Lib.hid hp
  have hmk := run_make_row' (P := Try.prog) 22 3 (.int .i64 0) 8 Try.underlying22 infoInt rfl .i64 .i64 m (by omega) (by omega)
  clear h g hp
  go_enter Try.func49, Try.ntmps49
  go_wp2
  go_loopw [15] (fun i wr => ∃ k : Nat, k ≤ m ∧ i = .int .i64 k ∧ wr.rowIs w.heap.size 3 m (fun j => if j < k then .int .i64 (gi (ptL p ps) j) else .int .i64 0) ∧ Below w.heap.size w wr) (fun i _ => m - (intOf i).toNat)
  case atStart =>
    exact ⟨0, Nat.zero_le _, rfl, (World.rowIs_made w (.int .i64 0) m 3).congr (fun j _ => by simp), (Below.refl _ _).alloc (Nat.le_refl _) _⟩
  case round =>
    obtain ⟨k, hk, rfl, hrow, hb⟩ := hrel
    by_cases hlt : k < m
    · obtain ⟨b2, off2, hE, hbw2, hc2⟩ := G.out.cell hlt
      have hck : wr.cell? ⟨b2, off2 + k, none⟩ = some (.int .i64 (gi ps k)) := (hb.cell (p := ⟨b2, off2 + k, none⟩) hbw2).trans (hc2 k hlt)
      obtain ⟨x, hx⟩ : ∃ x : Nat, gi ps k = (x : Int) := ⟨(gi ps k).toNat, by have := HP.out k hlt; omega⟩
      have hxn : x < n := by have := HP.out k hlt; omega
      rw [hx] at hck
      obtain ⟨b, off, hA, hbw, hc⟩ := H.out.cell hxn
      have HCx : Hid (∀ (w' : World), Below w.heap.size w w' → w'.cell? ⟨b, off + x, none⟩ = some (.int .i64 (gi p x))) := fun w' hb' => (hb'.cell (p := ⟨b, off + x, none⟩) hbw).trans (hc x hxn)
      have HC2 : Hid (∀ (w' : World) (j : Nat), j < m → Below w.heap.size w w' → w'.cell? ⟨b2, off2 + j, none⟩ = some (.int .i64 (gi ps j))) := fun w' j hj hb' => (hb'.cell (p := ⟨b2, off2 + j, none⟩) hbw2).trans (hc2 j hj)
      have HC1 : Hid (∀ (w' : World) (j : Nat), j < n → Below w.heap.size w w' → w'.cell? ⟨b, off + j, none⟩ = some (.int .i64 (gi p j))) := fun w' j hj hb' => (hb'.cell (p := ⟨b, off + j, none⟩) hbw).trans (hc j hj)
      have HV : Hid (gi (ptL p ps) k = ptN p ps (gi p x) m) := by show _ = _; rw [gi_ptL p ps k (by omega), hx, hl2]; simp
      have HR := Lib.hid hrow
      have HB := Lib.hid hb
      have HXX := Lib.hid hx
      subst hA
      subst hE
      obtain ⟨v, hv⟩ : ∃ v, v = gi p x := ⟨_, rfl⟩
      rw [← hv] at HCx HV
      clear hrow hb hc hc2 hx hmk hv
      go_wp2
      obtain ⟨wo, hwo⟩ : ∃ u : World, u = wr := ⟨_, rfl⟩
      subst hwo
      go_loopw [9, 22] (fun _ i wq => ∃ y : Nat, y ≤ m ∧ i = .int .i64 y ∧ wq.rowIs w.heap.size 3 m (fun j => if j < k then .int .i64 (gi (ptL p ps) j) else if j = k then .int .i64 (ptN p ps v y) else .int .i64 0) ∧ Below w.heap.size w wq) (fun _ i _ => m - (intOf i).toNat)
      case atStart =>
        refine ⟨0, Nat.zero_le _, rfl, HR.out.congr (fun j _ => ?_), HB.out⟩
        by_cases e : j < k
        · simp [e]
        · by_cases e2 : j = k
          · simp [e2, ptN]
          · simp [e, e2]
      case round =>
        obtain ⟨y, hy, rfl, hrow, hb⟩ := hrel
        have hcv := HCx.out _ hb
        by_cases hlt2 : y < m
        · have hcy := HC2.out _ y hlt2 hb
          obtain ⟨z, hz⟩ : ∃ z : Nat, gi ps y = (z : Int) := ⟨(gi ps y).toNat, by have := HP.out y hlt2; omega⟩
          have hzn : z < n := by have := HP.out y hlt2; omega
          have hcz := HC1.out _ z hzn hb
          rw [hz] at hcy
          have hdd := hrow.cell hlt
          have hf := hrow.frozen k
          have hpb := ptN_le p ps v y
          simp only [Nat.lt_irrefl, if_false, if_true] at hdd
          have HYes := Lib.hid (fun (q : gi p z < v) => (ptN_yes (p := p) (ps := ps) (v := v) (k := y) (by rw [hz]; exact q)))
          have HNo := Lib.hid (fun (q : ¬ gi p z < v) => (ptN_no (p := p) (ps := ps) (v := v) (k := y) (by rw [hz]; exact q)))
          obtain ⟨u, hu⟩ : ∃ u, u = gi p z := ⟨_, rfl⟩
          rw [← hu] at hcz HYes HNo
          obtain ⟨t, ht⟩ : ∃ t, t = ptN p ps v y := ⟨_, rfl⟩
          rw [← ht] at hdd hpb HYes HNo
          have H1 := Lib.hid hrow
          have H2 := Lib.hid hb
          have HT := Lib.hid ht
          have hwt : IntKind.i64.wrap (t + 1) = t + 1 := IntWalk.i64_in _ (by omega)
          clear hrow hb hz hu ht
          by_cases huv : u < v
          · have HE := Lib.hid (HYes.out huv)
            go_wp2
            go_quiet (fail)
            obtain ⟨wd, hwd⟩ : ∃ wd, wd = wr.drewN nq := ⟨_, rfl⟩
            have H1' : Hid (wd.rowIs w.heap.size 3 m (fun j => if j < k then .int .i64 (gi (ptL p ps) j) else if j = k then .int .i64 (ptN p ps v y) else .int .i64 0)) := by rw [hwd]; exact H1.out
            have H2' : Hid (Below w.heap.size w wd) := by rw [hwd]; exact below_drewN H2.out nq
            have hdd' : wd.cell? ⟨w.heap.size, k, none⟩ = some (.int .i64 t) := by rw [hwd]; exact hdd
            have hf' : wd.frozen? ⟨w.heap.size, k, none⟩ = false := by rw [hwd]; exact hf
            rw [← hwd]
            clear hwd hdd hf
            go_wp2
            go_roundw
            case rel =>
              refine ⟨y + 1, by omega, by go_num, (H1'.out.set k _).congr (fun j hj => ?_), H2'.out.setCell (by simp) _⟩
              by_cases e2 : j = k
              · simp [e2, HE.out]
              · by_cases e : j < k
                · simp [e, e2]
                · simp [e, e2]
            case measure => simp [intOf]; omega
          · have HE := Lib.hid (HNo.out huv)
            have hvu : v ≤ u := by omega
            clear huv
            go_wp2
            go_quiet (fail)
            go_wp2
            go_roundw
            case rel =>
              refine ⟨y + 1, by omega, by go_num, World.rowIs.congr (f := fun j => if j < k then .int .i64 (gi (ptL p ps) j) else if j = k then .int .i64 (ptN p ps v y) else .int .i64 0) (by exact H1.out) (fun j hj => ?_), below_drewN H2.out _⟩
              by_cases e2 : j = k
              · simp [e2, HE.out, HT.out]
              · by_cases e : j < k
                · simp [e, e2]
                · simp [e, e2]
            case measure => simp [intOf]; omega
        · obtain rfl : y = m := by omega
          have H1 := Lib.hid hrow
          have H2 := Lib.hid hb
          clear hrow hb
          go_wp2
          go_roundw
          case rel =>
            refine ⟨k + 1, by omega, by go_num, H1.out.congr (fun j hj => ?_), H2.out⟩
            by_cases e : j < k
            · simp [e, show j < k + 1 by omega]
            · by_cases e2 : j = k
              · subst e2; simp [HV.out]
              · simp [e, e2, show ¬ j < k + 1 by omega]
          case measure => simp [intOf]; omega
    · obtain rfl : k = m := by omega
      go_wp2
      go_ret
      refine ⟨_, _, rfl, OI.of_rowIs (Nat.le_refl _) hrow (by simp only [maxLen]; omega) (by rw [ptL_len]; exact hl2) (fun j hj => by simp [hj]), hb⟩
end Go.Proofs.Ythalcjgpjagcoaa
