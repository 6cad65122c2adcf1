/- The contract of the program's RepeatLadder. -/
import Derived.Test.YtpkeafdleonalaaRp
import Derived.Test.YtpkeafdleonalaaC1q
namespace Go.Proofs.Ytpkeafdleonalaa
open Go Go.RowKit

theorem cat_rep_length (zs : List Int) (k : Nat) : (cat (fun _ => zs) k).length = k * zs.length := by
  induction k with
  | zero => simp [cat]
  | succ k ih => simp only [cat, List.length_append, ih, Nat.succ_mul]
theorem cat_rep_mem {zs : List Int} {k : Nat} {x : Int} (h : x ∈ cat (fun _ => zs) k) : x ∈ zs := by
  induction k with
  | zero => simp [cat] at h
  | succ k ih =>
    simp only [cat, List.mem_append] at h
    rcases h with h | h
    · exact ih h
    · exact h
theorem Parts.rep {w : World} {g k n c : Nat} {A : Option Addr} {zs : List Int} {t : TypeId} (hh : w.heap[g]? = some (.cells (List.replicate k (.slice A n c)).toArray t (0, 0))) (h : RI w A n zs) : Parts w (some ⟨g, 0, none⟩) k (fun _ => A) (fun _ => n) (fun _ => c) (fun _ => zs) := by
  refine ⟨fun _ => ⟨g, 0, rfl, (Array.getElem?_eq_some_iff.1 hh).1, fun j hj => ?_⟩, fun j _ => h⟩
  simp only [World.cell?, hh, Nat.zero_add]
  simp [hj]
def repL (zs : List Int) (k : Int) : List Int := if zs.length = 0 then [] else cat (fun _ => zs) k.toNat
def repB (W : Int) (zs : List Int) (k : Int) : Bool := lad W zs && decide (0 ≤ k ∧ (zs.length = 0 ∨ k.toNat * zs.length ≤ 60))
theorem lad_rep {W : Int} {zs : List Int} (h : lad W zs = true) (k : Nat) : lad W (cat (fun _ => zs) k) = decide (k * zs.length ≤ 60) := by
  rw [Bool.eq_iff_iff, lad_iff, decide_eq_true_iff, cat_rep_length]
  rw [lad_iff] at h
  constructor
  · intro g; exact g.2.1
  · intro g
    refine ⟨h.1, g, ?_⟩
    have h3 := h.2.2
    unfold allIn at h3 ⊢
    rw [List.all_eq_true] at h3 ⊢
    exact fun z hz => h3 z (cat_rep_mem hz)
theorem lad_nil {W : Int} {zs : List Int} (h : lad W zs = true) : lad W [] = true := by
  rw [lad_iff] at h ⊢
  exact ⟨h.1, by simp, by simp [allIn]⟩
theorem repN_len (W : Int) (zs : List Int) (k : Int) : (ifL (repB W zs k) (repL zs k)).length ≤ 1000 := by
  rcases h : repB W zs k with _ | _
  · rw [ifL_no]; simp
  · rw [ifL_yes]
    unfold repB at h
    simp only [Bool.and_eq_true, decide_eq_true_iff] at h
    unfold repL
    split
    · simp
    · rw [cat_rep_length]; omega

set_option maxRecDepth 100000 in
set_option maxHeartbeats 4000000 in
theorem iRepeat_some (W : Int) (A : Option Addr) (n c : Nat) (zs : List Int) (k : Nat) (w : World) (h : RI w A n zs) (hn : n ≤ 60) (hq : lad W zs = true) (h0 : 0 < n) (hk : k ≤ 60) :
    Calls Try.prog 23 #[.agg #[.int .i64 W, .slice A n c], .int .i64 (k : Int)] w
      (FreshLB w (ifW (lad W (cat (fun _ => zs) k)) W) (ifL (lad W (cat (fun _ => zs) k)) (cat (fun _ => zs) k)).length (ifL (lad W (cat (fun _ => zs) k)) (cat (fun _ => zs) k)) (lad W (cat (fun _ => zs) k))) := by
  have hzl := Lib.hid h.1
  have HW := Lib.hid hq
  clear hq
  obtain ⟨L, hL⟩ : ∃ L, L = cat (fun _ => zs) k := ⟨_, rfl⟩
  rw [← hL]
  have HT : Hid (cat (fun _ => zs) k = L) := hL.symm
  have hal : L.length ≤ 1000000 := by rw [hL, cat_rep_length, h.1]; exact Nat.le_trans (Nat.mul_le_mul hk hn) (by decide)
  obtain ⟨q, hq⟩ : ∃ q, q = lad W L := ⟨_, rfl⟩
  rw [← hq]
  have HQ := Lib.hid hq
  clear hq hL
  go_enter Try.func23, Try.ntmps23
  go_wp2_with fail
  have HA := boxAlloc (boxNew (W := W) (c := c) 31 h) (.cells #[.int .i64 0, .slice none 0 0] 31)
  have HB := belAlloc (belAlloc (belRefl (w := w)) (.cells #[.int .i64 W, .slice A n c] 31)) (.cells #[.int .i64 0, .slice none 0 0] 31)
  have HC := cellNew (w.alloc (.cells #[.int .i64 W, .slice A n c] 31)) (.int .i64 0) (.slice none 0 0) 31
  refine (iIsLadder_any W A n c zs _ HA.out.ri (by omega)).mono ?_
  rw [HW.out]
  rintro e w1 ⟨rfl, hb⟩
  replace HA := boxStep HA hb
  replace HB := belStep HB hb
  replace HC := cellStep HC hb
  have a0 := HA.out.c0; have a1 := HA.out.c1; have az := HA.out.lt
  have cz := HC.out.lt
  simp only [World.size_alloc] at cz
  clear hb h
  have i0 : (0 : Int) ≤ (k : Int) := Int.natCast_nonneg _
  have i1 : (k : Int) ≤ 60 := by omega
  have i2 : ¬ ((n : Int) = 0) := by omega
  go_wp2_with fail
  have H2 := boxDrew (boxAlloc HA (.cells #[.slice A n c] 22))
  have B2 := belDrew (belAlloc HB (.cells #[.slice A n c] 22))
  have C2 := cellDrew (cellAlloc HC (.cells #[.slice A n c] 22))
  have HRP := Lib.hid (repeat_any w1.heap.size (.slice A n c) k (w1.alloc (.cells #[.slice A n c] 22)).drew (by simp) (by simp) rfl (by omega))
  go_region_held3 (fun w' => w'.cell? ⟨w.heap.size, 0, none⟩ = some (.int .i64 W) ∧ w'.cell? ⟨w.heap.size, 1, none⟩ = some (.slice A n c))
    (first | exact ⟨HA.out.c0, HA.out.c1⟩ | exact ⟨H2.out.c0, H2.out.c1⟩ | exact ⟨H3.out.c0, H3.out.c1⟩ | exact ⟨H5.out.c0, H5.out.c1⟩ | exact ⟨farSet2 H5.out.c0 (by omega), farSet2 H5.out.c1 (by omega)⟩)
    (first
      | (go_at_call 46; refine HRP.out.mono ?_; rintro e w3 ⟨g3, rfl, hg3, hh3, hb3⟩; have H3 := boxStep H2 hb3; have B3 := belStep B2 hb3; have C3 := cellStep C2 hb3; have PT := Lib.hid (Parts.rep hh3 H3.out.ri); clear hh3 hb3 hg3)
      | (go_at_call 43; refine (ladderOf_any W _ k k _ _ _ _ _ PT.out (by omega) _ HT.out hal).mono ?_; rw [← HQ.out]; rintro e w5 ⟨A5, c5, rfl, o5, hb⟩; have H5 := boxStep H3 hb; have B5 := belStep B3 hb; have C5 := cellStep C3 hb; have O5 := Lib.hid o5; have k0 := C5.out.c0; have k1 := C5.out.c1; have f0 := C5.out.f0; have f1 := C5.out.f1; have cz5 := C5.out.lt; have cz3 := C3.out.lt; simp only [World.size_alloc] at k0 k1 f0 f1 cz5 cz3; clear o5 hb))
  go_wp2
  exact bodyPost_ret (v := .tuple #[.agg #[.int .i64 (ifW q W), .slice A5 (ifL q L).length c5], .bool q]) (by simp [results, Try.results23, go_sem, k0, k1]) rfl
    ⟨A5, c5, rfl, ((O5.out.setBelow (p := ⟨w.heap.size + 1, 0, none⟩) (by simp <;> omega) _).setBelow (p := ⟨w.heap.size + 1, 1, none⟩) (by simp <;> omega) _).mono (B' := w.heap.size) (by have := B3.out.size; omega), (B5.out.setCell (p := ⟨w.heap.size + 1, 0, none⟩) (by simp) _).setCell (p := ⟨w.heap.size + 1, 1, none⟩) (by simp) _⟩

set_option maxRecDepth 100000 in
set_option maxHeartbeats 4000000 in
theorem iRepeat_none (W : Int) (A : Option Addr) (c : Nat) (zs : List Int) (x : Int) (w : World) (h : RI w A 0 zs) (hq : lad W zs = true) (hk : 0 ≤ x) :
    Calls Try.prog 23 #[.agg #[.int .i64 W, .slice A 0 c], .int .i64 x] w
      (FreshLB w (ifW (lad W (cat (fun _ => zs) 0)) W) (ifL (lad W (cat (fun _ => zs) 0)) (cat (fun _ => zs) 0)).length (ifL (lad W (cat (fun _ => zs) 0)) (cat (fun _ => zs) 0)) (lad W (cat (fun _ => zs) 0))) := by
  have hzl := Lib.hid h.1
  have HW := Lib.hid hq
  clear hq
  obtain ⟨L, hL⟩ : ∃ L, L = cat (fun _ => zs) 0 := ⟨_, rfl⟩
  rw [← hL]
  have HT : Hid (cat (fun _ => zs) 0 = L) := hL.symm
  have hal : L.length ≤ 1000000 := by rw [hL, cat_rep_length, h.1]; omega
  obtain ⟨q, hq⟩ : ∃ q, q = lad W L := ⟨_, rfl⟩
  rw [← hq]
  have HQ := Lib.hid hq
  clear hq hL
  go_enter Try.func23, Try.ntmps23
  go_wp2_with fail
  have HA := boxAlloc (boxNew (W := W) (c := c) 31 h) (.cells #[.int .i64 0, .slice none 0 0] 31)
  have HB := belAlloc (belAlloc (belRefl (w := w)) (.cells #[.int .i64 W, .slice A 0 c] 31)) (.cells #[.int .i64 0, .slice none 0 0] 31)
  have HC := cellNew (w.alloc (.cells #[.int .i64 W, .slice A 0 c] 31)) (.int .i64 0) (.slice none 0 0) 31
  refine (iIsLadder_any W A 0 c zs _ HA.out.ri (by omega)).mono ?_
  rw [HW.out]
  rintro e w1 ⟨rfl, hb⟩
  replace HA := boxStep HA hb
  replace HB := belStep HB hb
  replace HC := cellStep HC hb
  have a0 := HA.out.c0; have a1 := HA.out.c1; have az := HA.out.lt
  have cz := HC.out.lt
  simp only [World.size_alloc] at cz
  clear hb h
  go_wp2_with fail
  have H2 := boxDrew (boxAlloc HA (.cells #[.slice A 0 c] 22))
  have B2 := belDrew (belAlloc HB (.cells #[.slice A 0 c] 22))
  have C2 := cellDrew (cellAlloc HC (.cells #[.slice A 0 c] 22))
  have HRP := Lib.hid (repeat_any w1.heap.size (.slice A 0 c) 0 (w1.alloc (.cells #[.slice A 0 c] 22)).drew (by simp) (by simp) rfl (by omega))
  go_region_held3 (fun w' => w'.cell? ⟨w.heap.size, 0, none⟩ = some (.int .i64 W) ∧ w'.cell? ⟨w.heap.size, 1, none⟩ = some (.slice A 0 c))
    (first | exact ⟨HA.out.c0, HA.out.c1⟩ | exact ⟨H2.out.c0, H2.out.c1⟩ | exact ⟨H3.out.c0, H3.out.c1⟩ | exact ⟨H5.out.c0, H5.out.c1⟩ | exact ⟨farSet2 H5.out.c0 (by omega), farSet2 H5.out.c1 (by omega)⟩)
    (first
      | (go_at_call 46; refine HRP.out.mono ?_; rintro e w3 ⟨g3, rfl, hg3, hh3, hb3⟩; have H3 := boxStep H2 hb3; have B3 := belStep B2 hb3; have C3 := cellStep C2 hb3; have PT := Lib.hid (Parts.rep hh3 H3.out.ri); clear hh3 hb3 hg3)
      | (go_at_call 43; refine (ladderOf_any W _ 0 0 _ _ _ _ _ PT.out (by omega) _ HT.out hal).mono ?_; rw [← HQ.out]; rintro e w5 ⟨A5, c5, rfl, o5, hb⟩; have H5 := boxStep H3 hb; have B5 := belStep B3 hb; have C5 := cellStep C3 hb; have O5 := Lib.hid o5; have k0 := C5.out.c0; have k1 := C5.out.c1; have f0 := C5.out.f0; have f1 := C5.out.f1; have cz5 := C5.out.lt; have cz3 := C3.out.lt; simp only [World.size_alloc] at k0 k1 f0 f1 cz5 cz3; clear o5 hb))
  go_wp2
  exact bodyPost_ret (v := .tuple #[.agg #[.int .i64 (ifW q W), .slice A5 (ifL q L).length c5], .bool q]) (by simp [results, Try.results23, go_sem, k0, k1]) rfl
    ⟨A5, c5, rfl, ((O5.out.setBelow (p := ⟨w.heap.size + 1, 0, none⟩) (by simp <;> omega) _).setBelow (p := ⟨w.heap.size + 1, 1, none⟩) (by simp <;> omega) _).mono (B' := w.heap.size) (by have := B3.out.size; omega), (B5.out.setCell (p := ⟨w.heap.size + 1, 0, none⟩) (by simp) _).setCell (p := ⟨w.heap.size + 1, 1, none⟩) (by simp) _⟩

end Go.Proofs.Ytpkeafdleonalaa
