/- The contracts of the functions by which the laws compare, mark and look at slices of strings. -/
import Derived.Test.YtnogmbhcphglkaaDoorTb1
import Derived.Test.YtnogmbhcphglkaaDoorBase
namespace Go.Proofs.YtnogmbhcphglkaaDoor
open Go Go.RowKit

def eqT (zs ys : List (List UInt8)) : Bool := decide (zs = ys)
theorem eqT_true {zs ys : List (List UInt8)} (hl : zs.length = ys.length) (h : ∀ j, j < zs.length → gt zs j = gt ys j) : eqT zs ys = true := by
  unfold eqT
  rw [decide_eq_true_iff]
  exact gt_ext hl h
theorem eqT_len {zs ys : List (List UInt8)} (hl : zs.length ≠ ys.length) : eqT zs ys = false := by
  unfold eqT
  rw [decide_eq_false_iff_not]
  intro e; exact hl (by rw [e])
theorem eqT_at {zs ys : List (List UInt8)} {j : Nat} (h : gt zs j ≠ gt ys j) : eqT zs ys = false := by
  unfold eqT
  rw [decide_eq_false_iff_not]
  intro e; exact h (by rw [e])
theorem bs_cmp (a b : List UInt8) : ((bs a).toList == (bs b).toList) = decide (a = b) := by
  rw [ByteArray.toList_eq, ByteArray.toList_eq]
  show (a == b) = _
  by_cases h : a = b
  · rw [h, decide_eq_true rfl]; exact beq_self_eq_true _
  · rw [decide_eq_false h, beq_eq_false_iff_ne]; exact h

set_option maxHeartbeats 1000000 in
theorem eqStringS_any (A : Option Addr) (n c : Nat) (zs : List (List UInt8)) (B : Option Addr) (m d : Nat) (ys : List (List UInt8)) (w : World) (h : RT w A n zs) (g : RT w B m ys) (hn : n ≤ 1048576) (hm : m ≤ 1048576) :
    Calls Tryd.prog 10 #[.slice A n c, .slice B m d] w (RetB (eqT zs ys) w) := by
  by_cases hnm : n = m
  · subst hnm
    go_enter Tryd.func10, Tryd.ntmps10
    go_wp2
    go_loopw [5] (fun i wr => ∃ k : Nat, k ≤ n ∧ i = .int .i64 k ∧ (∀ j, j < k → gt zs j = gt ys j) ∧ Below w.heap.size w wr) (fun i _ => n - (intOf i).toNat)
    case atStart => exact ⟨0, Nat.zero_le _, rfl, fun j hj => absurd hj (by omega), Below.refl _ _⟩
    case round =>
      obtain ⟨k, hk, rfl, hall, hb⟩ := hrel
      by_cases hlt : k < n
      · obtain ⟨b, off, rfl, hbw, hc⟩ := h.cell hlt
        obtain ⟨b2, off2, rfl, hbw2, hc2⟩ := g.cell hlt
        have hck : wr.cell? ⟨b, off + k, none⟩ = some (.string (bs (gt zs k))) := (hb.cell (p := ⟨b, off + k, none⟩) hbw).trans (hc k hlt)
        have hck2 : wr.cell? ⟨b2, off2 + k, none⟩ = some (.string (bs (gt ys k))) := (hb.cell (p := ⟨b2, off2 + k, none⟩) hbw2).trans (hc2 k hlt)
        have hcmp := bs_cmp (gt zs k) (gt ys k)
        have H2 := Lib.hid hb
        have H3 := Lib.hid hall
        clear hb hc hc2 hall
        obtain ⟨u, hu⟩ : ∃ u, u = bs (gt zs k) := ⟨_, rfl⟩
        obtain ⟨v, hv⟩ : ∃ v, v = bs (gt ys k) := ⟨_, rfl⟩
        rw [← hu] at hck hcmp
        rw [← hv] at hck2 hcmp
        clear hu hv
        by_cases he : gt zs k = gt ys k
        · rw [decide_eq_true he] at hcmp
          have HE := Lib.hid he
          clear he
          go_wp2
          go_quiet (fail)
          go_wp2
          go_roundw
          case rel =>
            refine ⟨k + 1, by omega, by go_num, fun j hj => ?_, below_drewN H2.out _⟩
            by_cases e : j = k
            · rw [e, HE.out]
            · exact H3.out j (by omega)
          case measure => simp [intOf]; omega
        · rw [decide_eq_false he] at hcmp
          have HE := Lib.hid he
          clear he
          go_wp2
          go_quiet (fail)
          go_wp2
          go_ret
          exact ⟨ret_b (eqT_at HE.out).symm, below_drewN H2.out _⟩
      · obtain rfl : k = n := by omega
        go_wp2
        go_ret
        exact ⟨ret_b (eqT_true (h.1.trans g.1.symm) (by rw [h.1]; exact hall)).symm, hb⟩
  · have hne : ((n : Int) != (m : Int)) = true := by rw [bne_iff_ne]; omega
    go_enter Tryd.func10, Tryd.ntmps10
    go_wp2
    go_ret
    exact ⟨ret_b (eqT_len (by rw [h.1, g.1]; exact hnm)).symm, Below.refl _ _⟩

/-- the marks' texts -/
def mtxs (k : Int) (n : Nat) : List (List UInt8) := (List.range n).map fun (j : Nat) => mtx (k + (j : Int))
theorem mtxs_length (k : Int) (n : Nat) : (mtxs k n).length = n := by simp [mtxs]
theorem gt_mtxs (k : Int) (n j : Nat) (h : j < n) : gt (mtxs k n) j = mtx (k + j) := by
  rw [gt_lt (by rw [mtxs_length]; exact h)]; simp [mtxs]
/-- the row holds the marks; no other block that was there has turned -/
def MarkedT (w : World) (B : Nat) (A : Option Addr) (n c : Nat) (k : Int) (e : Ending) (w' : World) : Prop :=
  e = .returned (.int .i64 (k + n)) ∧ OT w' B A n c (mtxs k n) ∧ w.grownBy w' (blk A)
def MarkRelT (w : World) (B : Nat) (A : Option Addr) (n c : Nat) (k : Int) (i : Nat) (wr : World) : Prop :=
  (∃ ys, OT wr B A n c ys ∧ ∀ j, j < i → gt ys j = mtx (k + j)) ∧ w.grownBy wr (blk A)

set_option maxHeartbeats 1000000 in
theorem markStringS_any (B : Nat) (A : Option Addr) (n c : Nat) (zs : List (List UInt8)) (k : Int) (w : World) (h : OT w B A n c zs) (hn : n ≤ 1048576) (hk : 0 ≤ k) (hk2 : k ≤ 1000000000000) :
    Calls Tryd.prog 13 #[.slice A n c, .int .i64 k] w (MarkedT w B A n c k) := by
  go_enter Tryd.func13, Tryd.ntmps13
  go_wp2
  go_loopw [1, 5] (fun s i wr => ∃ k' : Nat, k' ≤ n ∧ i = .int .i64 k' ∧ s = .int .i64 (k + k') ∧ MarkRelT w B A n c k k' wr) (fun _ i _ => n - (intOf i).toNat)
  case atStart => exact ⟨0, Nat.zero_le _, rfl, by simp, ⟨zs, h, fun j hj => absurd hj (by omega)⟩, grown_refl _ _⟩
  case round =>
    obtain ⟨i, hi, rfl, rfl, ⟨ys, ho, hall⟩, hg⟩ := hrel
    by_cases hlt : i < n
    · have HO := Lib.hid ho
      have H2 := Lib.hid hg
      have H3 := Lib.hid hall
      clear ho hg hall h
      go_wp2_with fail
      refine (markText_any (k + (i : Int)) _ (by omega) (by omega)).mono ?_
      rintro e w3 ⟨rfl, hb⟩
      have ho := HO.out.below hb
      have H4 := Lib.hid (grown_below H2.out hb)
      clear hb
      rcases ho.form with ⟨_, _, h0⟩ | ⟨g, cur, rfl, hBg, hgw, hh, h1, h2, h3, h4⟩
      · omega
      obtain ⟨v0, hv0⟩ : ∃ v0, w3.cell? ⟨g, i, none⟩ = some v0 := ⟨_, ho.cells i hlt⟩
      have hf : w3.frozen? ⟨g, i, none⟩ = false := ho.2.frozenAt i
      have H1 := Lib.hid ho
      clear ho hh h4 h3
      unfold str
      go_wp2
      go_roundw
      case rel =>
        refine ⟨i + 1, by omega, by go_num, by go_num, ⟨ys.set i (mtx (k + (i : Int))), H1.out.stored i _, fun j hj => ?_⟩, grown_setCell (g := g) (p := ⟨g, i, none⟩) H4.out (.inl rfl) _⟩
        rw [gt_set _ _ _ _ (by have := H1.out.1; omega)]
        split
        · rename_i e; rw [e]
        · exact H3.out j (by omega)
      case measure => simp [intOf]; omega
    · obtain rfl : i = n := by omega
      go_wp2
      go_ret
      refine ⟨rfl, ?_, hg⟩
      have e : ys = mtxs k i := gt_ext (by rw [ho.1, mtxs_length]) (fun j hj => by rw [hall j (by have := ho.1; omega), gt_mtxs _ _ _ (by have := ho.1; omega)])
      rw [← e]; exact ho

set_option maxHeartbeats 1000000 in
theorem heldStringS_any (A : Option Addr) (n c : Nat) (k : Int) (w : World) (h : RT w A n (mtxs k n)) (hn : n ≤ 1048576) (hk : 0 ≤ k) (hk2 : k ≤ 1000000000000) :
    Calls Tryd.prog 14 #[.slice A n c, .int .i64 k] w (RetI (k + n) w) := by
  go_enter Tryd.func14, Tryd.ntmps14
  go_wp2
  go_loopw [1, 5] (fun s i wr => ∃ k' : Nat, k' ≤ n ∧ i = .int .i64 k' ∧ s = .int .i64 (k + k') ∧ Below w.heap.size w wr) (fun _ i _ => n - (intOf i).toNat)
  case atStart => exact ⟨0, Nat.zero_le _, rfl, by simp, Below.refl _ _⟩
  case round =>
    obtain ⟨i, hi, rfl, rfl, hb⟩ := hrel
    by_cases hlt : i < n
    · obtain ⟨b, off, rfl, hbw, hc⟩ := h.cell hlt
      obtain ⟨u, hu⟩ : ∃ u, u = bs (mtx (k + (i : Int))) := ⟨_, rfl⟩
      have hck : wr.cell? ⟨b, off + i, none⟩ = some (.string u) := (hb.cell (p := ⟨b, off + i, none⟩) hbw).trans (by rw [hc i hlt, gt_mtxs _ _ _ hlt, hu]; rfl)
      have HK := Lib.hid hck
      have hbr := Nat.lt_of_lt_of_le hbw hb.size
      have HU : Hid (∀ w, Calls Tryd.prog 32 #[.int .i64 (k + (i : Int))] w (fun e w' => e = .returned (.string u) ∧ Below w.heap.size w w')) := fun w => by
        rw [hu]; exact markText_any _ w (by omega) (by omega)
      have H2 := Lib.hid hb
      have hcmp : (u.toList == u.toList) = true := beq_self_eq_true _
      clear hc hb h hu
      go_wp2_with fail
      go_region_with ((go_at_call 32; refine (HU.out _).mono ?_; rintro e w3 ⟨rfl, hb⟩; have b3 : Hid (Below wr.heap.size wr w3) := (by first | exact Lib.hid hb | exact Lib.hid ((Below.refl wr.heap.size wr).drew.trans hb) | exact Lib.hid ((Below.refl wr.heap.size wr).drew.drew.trans hb)); clear hb; have hck3 : w3.cell? ⟨b, off + i, none⟩ = some (.string u) := (b3.out.cell (p := ⟨b, off + i, none⟩) hbr).trans HK.out))
      all_goals (go_wp2)
      all_goals go_roundw
      any_goals (case rel => exact ⟨i + 1, by omega, by go_num, by go_num, H2.out.trans (b3.out.mono H2.out.size)⟩)
      all_goals (simp [intOf]; omega)
    · obtain rfl : i = n := by omega
      go_wp2
      go_ret
      exact ⟨rfl, hb⟩
end Go.Proofs.YtnogmbhcphglkaaDoor
