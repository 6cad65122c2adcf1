/- MeetingTable of the program: a new slice of slices. -/
import Derived.Test.YthalcjgpjagcoaaMt1
import Derived.Test.YthalcjgpjagcoaaMgF
import Derived.Test.YthalcjgpjagcoaaPs2
import Derived.Test.YthalcjgpjagcoaaLB
import Derived.Deep.WholeRow
namespace Go.Proofs.Ythalcjgpjagcoaa
open Go Go.RowKit

/-- the row of one start -/
def mtRow (zs : List Int) (N a : Nat) : List Int := (List.range N).map fun b => mtN zs a b zs.length
theorem mtRow_len (zs : List Int) (N a : Nat) : (mtRow zs N a).length = N := by simp [mtRow]
theorem gi_mtRow (zs : List Int) (N a b : Nat) (h : b < N) : gi (mtRow zs N a) b = mtN zs a b zs.length := by
  rw [gi_lt (by rw [mtRow_len]; exact h)]; simp [mtRow]
def mtT (zs : List Int) (N : Nat) : List (List Int) := (List.range N).map fun a => mtRow zs N a
theorem mtT_len (zs : List Int) (N : Nat) : (mtT zs N).length = N := by simp [mtT]
theorem gz_mtT (zs : List Int) (N a : Nat) (h : a < N) : gz (mtT zs N) a = mtRow zs N a := by
  simp [gz, mtT, List.getD, h]
def mtTT (W : Int) (zs : List Int) : List (List Int) := if lad W zs = true then mtT zs W.toNat else []
theorem mtTT_yes {W : Int} {zs : List Int} (h : lad W zs = true) : mtTT W zs = mtT zs W.toNat := by unfold mtTT; rw [if_pos h]
theorem mtTT_no {W : Int} {zs : List Int} (h : lad W zs = false) : mtTT W zs = [] := by unfold mtTT; rw [h]; rfl
theorem infoSlI : (Try.prog.info? 22).map (fun i => (i.zero, i.size, i.bytes)) = some (some (.slice none 0 0), 1, 24) := by kernel_rfl
def slotV (S : List Sl) (j : Nat) : Value := match S[j]? with | some s => sl s | none => .slice none 0 0
theorem slotV_none {S : List Sl} {j : Nat} (h : S.length ≤ j) : slotV S j = .slice none 0 0 := by unfold slotV; rw [List.getElem?_eq_none h]
theorem slotV_snoc {S : List Sl} (s : Sl) (j : Nat) : slotV (S ++ [s]) j = if j = S.length then sl s else slotV S j := by
  unfold slotV
  by_cases e : j = S.length
  · subst e; simp
  · rw [if_neg e]
    by_cases e2 : j < S.length
    · rw [List.getElem?_append_left e2]
    · rw [List.getElem?_eq_none (by simp; omega), List.getElem?_eq_none (by omega)]
/-- a made slice of N slices in block g, of which the first ones lie in S -/
structure GR (w : World) (g M N : Nat) (F : Nat → List Int) (S : List Sl) : Prop where
  row : w.rowIs g 22 N (slotV S)
  inn : ∀ (j : Nat) (s : Sl), S[j]? = some s → OI w (g + 1) s.1 s.2.1 s.2.2 (F j)
  dis : ∀ (i j : Nat) (s t : Sl), i < j → S[i]? = some s → S[j]? = some t → ∀ b, blk s.1 = some b → blk t.1 ≠ some b
  lt : ∀ (j : Nat) (s : Sl), S[j]? = some s → ∀ b, blk s.1 = some b → b < M
  le : M ≤ w.heap.size
  gM : g < M
section
variable {w wi wj : World} {g M N : Nat} {F : Nat → List Int} {S : List Sl}
theorem GR.step (h : GR wi g M N F S) (hb : Below wi.heap.size wi wj) : GR wj g M N F S :=
  ⟨(rowStep (Lib.hid h.row) hb).out, fun j s hs => (h.inn j s hs).below hb, h.dis, h.lt, Nat.le_trans h.le hb.size, h.gM⟩
theorem GR.snoc (h : GR wi g M N F S) {A : Option Addr} {m d : Nat} (ho : OI wi M A m d (F S.length)) (hk : S.length < N) : GR (wi.setCell ⟨g, S.length, none⟩ (.slice A m d)) g wi.heap.size N F (S ++ [(A, m, d)]) := by
  have hg := h.gM
  refine ⟨(h.row.set S.length _).congr (fun j hj => by rw [slotV_snoc]; rfl), fun j s hs => ?_, fun i j s t hij hs ht b hb => ?_, fun j s hs b hb => ?_, by simp [World.setCell], Nat.lt_of_lt_of_le hg h.le⟩
  · by_cases e : j < S.length
    · rw [List.getElem?_append_left e] at hs
      exact (h.inn j s hs).setBelow (by simp) _
    · rw [List.getElem?_append_right (by omega)] at hs
      have hj : j = S.length := by
        have := (List.getElem?_eq_some_iff.1 hs).1
        simp at this; omega
      subst hj
      simp at hs
      subst hs
      exact (ho.mono (by omega)).setBelow (by simp) _
  · by_cases ej : j < S.length
    · rw [List.getElem?_append_left (by omega)] at hs ht
      exact h.dis i j s t hij hs ht b hb
    · rw [List.getElem?_append_right (by omega)] at ht
      have hj : j = S.length := by
        have := (List.getElem?_eq_some_iff.1 ht).1
        simp at this; omega
      subst hj
      simp at ht
      subst ht
      rw [List.getElem?_append_left (by omega)] at hs
      intro e
      have l1 := h.lt i s hs b hb
      have l2 := (ho.blk b e).1
      omega
  · by_cases e : j < S.length
    · rw [List.getElem?_append_left e] at hs
      exact Nat.lt_of_lt_of_le (h.lt j s hs b hb) h.le
    · rw [List.getElem?_append_right (by omega)] at hs
      have hj : j = S.length := by
        have := (List.getElem?_eq_some_iff.1 hs).1
        simp at this; omega
      subst hj
      simp at hs
      subst hs
      exact (ho.blk b hb).2
theorem GR.oii (h : GR w g M N F S) (hS : S.length = N) {zss : List (List Int)} (hz : zss.length = N) (hF : ∀ j, j < N → gz zss j = F j) (hN : N ≤ maxLen) {B : Nat} (hB : B ≤ g) : OII w B M (some ⟨g, 0, none⟩) N N zss S := by
  obtain ⟨cs, hh, hs, hc⟩ := h.row
  refine ⟨⟨by simp [hS], .inr ⟨g, N, cs, rfl, hB, hh, Nat.le_refl _, hN, by simpa using hs, ?_⟩⟩, hS, hz, fun j s hs2 => ?_, h.dis, h.lt, h.le⟩
  · apply List.ext_getElem?
    intro j
    by_cases hj : j < N
    · have h1 := hc j hj
      have h2 : S[j]? = some (S[j]'(by omega)) := List.getElem?_eq_getElem (by omega)
      unfold slotV at h1
      rw [h2] at h1
      rw [List.getElem?_map, h2]
      simp [hj]
      simpa using h1
    · rw [List.getElem?_eq_none (by simp; omega), List.getElem?_eq_none (by simp; omega)]
  · have hj : j < N := by have := (List.getElem?_eq_some_iff.1 hs2).1; omega
    rw [hF j hj]
    exact (h.inn j s hs2).mono (by omega)
end

set_option maxRecDepth 100000 in
set_option maxHeartbeats 4000000 in
theorem iMeetingTable_any (W : Int) (A : Option Addr) (n c : Nat) (zs : List Int) (w : World) (h : RI w A n zs) (hn : n ≤ 1048576) :
    Calls Try.prog 14 #[.agg #[.int .i64 W, .slice A n c]] w (FreshSSB w (mtTT W zs) (lad W zs)) := by
  have hl := h.1
  have HA := boxNew (W := W) (c := c) 29 h
  have HB := belAlloc (belRefl (w := w)) (.cells #[.int .i64 W, .slice A n c] 29)
  have HI := Lib.hid (fun w2 (r : RI w2 A n zs) => iIsLadder_any W A n c zs w2 r hn)
  rcases hq : lad W zs with _ | _
  · rw [mtTT_no hq]
    rw [hq] at HI
    clear hq h
    go_enter Try.func14, Try.ntmps14
    go_wp2_with fail
    refine (HI.out _ HA.out.ri).mono ?_
    rintro e w1 ⟨rfl, hb⟩
    replace HB := belStep HB hb
    have hz1 := HB.out.size
    clear hb
    go_wp2
    go_ret2
    exact ⟨none, 0, _, [], rfl, (OII.none_ _ _), HB.out⟩
  · rw [hq] at HI
    rw [mtTT_yes hq]
    have hW := (lad_iff.1 hq).1
    have hn60 : n ≤ 60 := by have := (lad_iff.1 hq).2.1; omega
    obtain ⟨N, rfl⟩ : ∃ N : Nat, W = (N : Int) := ⟨W.toNat, by omega⟩
    rw [Int.toNat_natCast]
    have HM := Lib.hid (fun w2 (r : RI w2 A n zs) => meetingsOn_any (N : Int) A n c zs w2 r hn60 hq)
    have hmk := run_make_row' (P := Try.prog) 26 22 (.slice none 0 0) 24 Try.underlying26 infoSlI rfl .i64 .i64 N (by omega) (by omega)
    have HF : Hid (FreshSSB w (mtT zs N) true = fun e w' => ∃ A c M S, e = .returned (.tuple #[.slice A N c, .bool true]) ∧ OII w' w.heap.size M A N c (mtT zs N) S ∧ Below w.heap.size w w') := by
      show _ = _
      unfold FreshSSB
      rw [mtT_len]
    rw [HF.out]
    clear hq h HF
    go_enter Try.func14, Try.ntmps14
    have a0 := HA.out.c0; have a1 := HA.out.c1; have az := HA.out.lt
    go_wp2_with fail
    refine (HI.out _ HA.out.ri).mono ?_
    rintro e w1 ⟨rfl, hb⟩
    replace HA := boxStep HA hb; replace HB := belStep HB hb
    replace a0 := HA.out.c0; replace a1 := HA.out.c1; replace az := HA.out.lt
    clear hb
    go_wp2_with fail
    refine (HM.out _ HA.out.ri).mono ?_
    rintro e w2 ⟨TT, rfl, hTs, hTc, hb⟩
    replace HA := boxStep HA hb; replace HB := belStep HB hb
    replace az := HA.out.lt
    have hone : TT.all (·.oneCell') = true := by
      rw [Array.all_eq_true]
      intro i hi
      have hi2 : i < 64 := by omega
      have := hTc i hi2
      rw [Array.getElem?_eq_getElem hi] at this
      injection this with this
      rw [this]; rfl
    have hstT := run_storeCells_new (P := Try.prog) w2 56 #[.int .i64 0, .int .i64 0, .int .i64 0, .int .i64 0, .int .i64 0, .int .i64 0, .int .i64 0, .int .i64 0, .int .i64 0, .int .i64 0, .int .i64 0, .int .i64 0, .int .i64 0, .int .i64 0, .int .i64 0, .int .i64 0, .int .i64 0, .int .i64 0, .int .i64 0, .int .i64 0, .int .i64 0, .int .i64 0, .int .i64 0, .int .i64 0, .int .i64 0, .int .i64 0, .int .i64 0, .int .i64 0, .int .i64 0, .int .i64 0, .int .i64 0, .int .i64 0, .int .i64 0, .int .i64 0, .int .i64 0, .int .i64 0, .int .i64 0, .int .i64 0, .int .i64 0, .int .i64 0, .int .i64 0, .int .i64 0, .int .i64 0, .int .i64 0, .int .i64 0, .int .i64 0, .int .i64 0, .int .i64 0, .int .i64 0, .int .i64 0, .int .i64 0, .int .i64 0, .int .i64 0, .int .i64 0, .int .i64 0, .int .i64 0, .int .i64 0, .int .i64 0, .int .i64 0, .int .i64 0, .int .i64 0, .int .i64 0, .int .i64 0, .int .i64 0] TT (by rw [hTs]; exact infoTab) (by rw [hTs]; rfl) hone
    have hzm : w.heap.size < w2.heap.size := az
    have HTc := Lib.hid hTc
    have HTCELL : Hid (∀ i, i < 64 → (w2.alloc (.cells TT 56)).cell? ⟨w2.heap.size, i, none⟩ = some (tabV zs zs.length i)) := fun i hi => by
      unfold World.cell?
      rw [heap_alloc_new w2 _]
      exact HTc.out i hi
    replace HA := boxAlloc HA (.cells TT 56)
    replace HB := belAlloc HB (.cells TT 56)
    replace a0 := HA.out.c0; replace a1 := HA.out.c1; replace az := HA.out.lt
    obtain ⟨bt, hbt⟩ : ∃ b, b = w2.heap.size := ⟨_, rfl⟩
    obtain ⟨ws, hws⟩ : ∃ v : World, v = w2.alloc (.cells TT 56) := ⟨_, rfl⟩
    have hzs : bt < ws.heap.size := by rw [hws, hbt]; simp
    rw [← hws] at HTCELL HA HB a0 a1 az hstT
    rw [← hbt] at HTCELL hzm
    have HBT := Lib.hid hbt
    clear hb hTc hws hone
    go_wp2
    rw [← HBT.out]
    obtain ⟨g, hg⟩ : ∃ b, b = ws.heap.size := ⟨_, rfl⟩
    have G0 : Hid (GR (ws.alloc (.cells (madeCells #[.slice none 0 0] N) 22)) g (ws.alloc (.cells (madeCells #[.slice none 0 0] N) 22)).heap.size N (mtRow zs N) []) :=
      ⟨by rw [hg]; exact (World.rowIs_made ws (.slice none 0 0) N 22).congr (fun j _ => by simp [slotV]), fun j s h => by simp at h, fun i j s t _ h => by simp at h, fun j s h => by simp at h, Nat.le_refl _, by rw [hg]; simp⟩
    have B0 : Hid (Below ws.heap.size ws (ws.alloc (.cells (madeCells #[.slice none 0 0] N) 22))) := (Below.refl _ _).alloc (Nat.le_refl _) _
    rw [← hg] at B0 ⊢
    have HG := Lib.hid hg
    have hgz : bt < g := by omega
    have hgw : w.heap.size < g := by omega
    clear hg hstT hmk hbt
    go_loopw [6, 17] (fun _ i wr => ∃ (k : Nat) (M : Nat) (S : List Sl), k ≤ N ∧ i = .int .i64 (k : Int) ∧ S.length = k ∧ GR wr g M N (mtRow zs N) S ∧ Below g ws wr) (fun _ i _ => N - (intOf i).toNat)
    case atStart => exact ⟨0, _, [], Nat.zero_le _, rfl, rfl, G0.out, B0.out⟩
    case round =>
      obtain ⟨k, M, S, hk, rfl, hSk, hG, hb⟩ := hrel
      have GG := Lib.hid hG
      have HR := Lib.hid hb
      have hrz := hb.size
      replace a0 := (hb.cell (p := ⟨w.heap.size, 0, none⟩) hgw).trans a0
      by_cases hlt : k < N
      · have RT : Hid (∀ w', Below g ws w' → RI w' (some ⟨bt, k * 8, none⟩) N (mtRow zs N k)) := fun w' hb' =>
          ⟨mtRow_len _ _ _, fun _ => ⟨bt, k * 8, rfl, by have := hb'.size; omega, fun j hj => by
            have h1 := (hb'.cell (p := ⟨bt, k * 8 + j, none⟩) hgz).trans (HTCELL.out (k * 8 + j) (by omega))
            rw [h1, gi_mtRow _ _ _ _ hj]
            unfold tabV
            have c1 : (k * 8 + j) / 8 = k := by omega
            have c2 : (k * 8 + j) % 8 = j := by omega
            rw [c1, c2]⟩⟩
        have d0 := hG.row.cell hlt
        have df := hG.row.frozen k
        have i1 : (0 : Int) ≤ (k : Int) := by omega
        have i2 : (k : Int) < 8 := by omega
        have i3 : (N : Int) ≤ 8 := by omega
        have i4 : (0 : Int) ≤ (N : Int) := by omega
        clear hG hb a1
        have HCL := Lib.hid (fun w' (r : RI w' (some ⟨bt, k * 8, none⟩) N (mtRow zs N k)) => cloneP_any (some ⟨bt, k * 8, none⟩) N 8 (mtRow zs N k) w' r (by omega))
        have a0d : wr.drew.cell? ⟨w.heap.size, 0, none⟩ = some (.int .i64 (N : Int)) := a0
        go_wp2_with fail
        go_region_held3 (fun w' => w'.cell? ⟨w.heap.size, 0, none⟩ = some (.int .i64 (N : Int)))
          (with_reducible first | exact a0d | exact a0 | exact c6 | exact (World.cell?_setCell_other _ _ _ _ (by simp <;> omega)).trans c6)
          (first
            | (go_at_call 43; refine (HCL.out _ (RT.out _ HR.out.drew)).mono ?_; rintro e w6 ⟨A6, c6', rfl, o6, hb6⟩; have c6 := (hb6.cell (p := ⟨w.heap.size, 0, none⟩) (by show w.heap.size < wr.heap.size; omega)).trans a0; have G6 := Lib.hid (GG.out.step ((Below.refl _ _).drew.trans hb6)); have HR6 := Lib.hid (HR.out.drew.trans (hb6.mono (by show g ≤ wr.heap.size; have := GG.out.gM; have := GG.out.le; omega))); have O6 := Lib.hid (o6.mono (show M ≤ _ from GG.out.le)); have e0 := G6.out.row.cell hlt; have ef := G6.out.row.frozen k; clear hb6 o6))
        go_wp2
        go_roundw
        case rel =>
          have hfin := G6.out.snoc (A := A6) (m := N) (d := c6') (by rw [hSk]; exact O6.out) (by omega)
          rw [hSk] at hfin
          exact ⟨k + 1, _, S ++ [(A6, N, c6')], by omega, by go_num, by simp [hSk], hfin, HR6.out.setCell (Nat.le_refl _) _⟩
        case measure => simp [intOf]; omega
      · obtain rfl : k = N := by omega
        have hle := GG.out.le
        clear hG hb
        go_wp2
        go_ret2
        exact ⟨_, _, M, S, rfl, (GG.out.oii hSk (mtT_len _ _) (fun j hj => gz_mtT _ _ _ hj) (by simp only [maxLen]; omega) (by omega)), HB.out.trans (HR.out.mono (by have := HB.out.size; omega))⟩
end Go.Proofs.Ythalcjgpjagcoaa
