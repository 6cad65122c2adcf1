/- The first one of all lists that slides make, as the program makes it. -/
import Derived.Test.YtbilpjlbbglccaaNf2
import Derived.Test.YtbilpjlbbglccaaMv2drop
import Derived.Test.YtbilpjlbbglccaaSSO
import Derived.Deep.DeepMust
namespace Go.Proofs.Ytbilpjlbbglccaa
open Go Go.RowKit

def lenOf3 : Value → Nat
  | .slice _ n _ => n
  | _ => 0
theorem cellNew1 (w : World) (v : Value) (t : TypeId) {b : Nat} (hb : b = w.heap.size) : (w.alloc (.cells #[v] t)).cell? ⟨b, 0, none⟩ = some v := by subst hb; simp
theorem Small.sub {zs ys : List Int} (h : Small zs) (hs : ∀ x ∈ ys, x ∈ zs) : Small ys := fun j hj => by
  have h1 : gi ys j ∈ ys := by rw [gi_lt hj]; exact List.getElem_mem hj
  obtain ⟨i, hi, e⟩ := List.mem_iff_getElem.1 (hs _ h1)
  have := h i hi
  rw [gi_lt hi, e] at this
  exact this
/-- what lies ahead is left of it, without one -/
theorem erase_cut {zs : List Int} {k : Nat} (h : k < zs.length) : zs.take k ++ ([] ++ zs.drop (k + 1)) = zs.eraseIdx k := by
  rw [List.nil_append, List.eraseIdx_eq_take_drop_succ]
theorem bst_in {zs : List Int} (h : 0 < zs.length) : bst zs zs.length < zs.length := bst_lt _ _ h
/-- two rows apart -/
def Apart2 (A B : Option Addr) : Prop := ∀ b, blk A = some b → blk B ≠ some b

set_option maxRecDepth 100000 in
set_option maxHeartbeats 1000000 in
theorem firstSame_any (A : Option Addr) (n c : Nat) (zs : List Int) (w : World) (h : RI w A n zs) (hn : n ≤ 1000) (hnc : n ≤ c) (hI : Small zs) :
    Calls Try.prog 42 #[.slice A n c] w (FreshI w n (nrm zs)) := by
  obtain ⟨i0, hi0, hz0, hz1, hz2⟩ := info_parts infoInt
  have hl := h.1
  have HI := Lib.hid hI
  have HA := Lib.hid h
  have hAlt : ∀ b, blk A = some b → 0 < n → b < w.heap.size := by
    intro b hb h0
    obtain ⟨b', off', e, hlt, _⟩ := h.2 h0
    rw [e] at hb; simp [blk] at hb; omega
  have HAL := Lib.hid hAlt
  clear h hI hAlt
  go_enter Try.func42, Try.ntmps42
  go_wp2_with (at_make; go_must (refine wpList_make_own _ rfl _ _ 47 rfl w.heap.size 3 i0 (.int .i64 0) 1 Try.underlying47 hi0 hz0 hz1 _ _ _ n rfl rfl (by omega) (by rw [hz2]; omega) (by unfold maxLen; omega) (Nat.le_refl _) ?_); intro w1 ho1 hg1; have HO1 : Hid (OI w1 w.heap.size (some ⟨w.heap.size, 0, none⟩) 0 n []) := Lib.hid ⟨rfl, ho1⟩; have HB1 : Hid (Below w.heap.size w w1) := Lib.hid ⟨hg1.os, hg1.tape, hg1.output, hg1.size, fun k hk => hg1.block k hk (by simp)⟩; clear ho1 hg1)
  go_loopw [3, 4, 5] (fun s3 s4 _ wr => ∃ (out left : List Int) (f : Nat) (AO : Option Addr) (co : Nat) (AL : Option Addr) (cl : Nat), s3 = .slice AO out.length co ∧ s4 = .slice AL f cl ∧ NRel zs out left f ∧ OI wr w.heap.size AO out.length co out ∧ RI wr AL f left ∧ f ≤ cl ∧ (0 < f → Apart2 AL AO) ∧ Below w.heap.size w wr) (fun _ s4 _ _ => lenOf3 s4)
  case atStart =>
    refine ⟨[], zs, n, _, _, A, c, rfl, rfl, by have := NRel.start zs; rwa [hl] at this, HO1.out, HA.out.below HB1.out (Nat.le_refl _), hnc, fun h0 b hb e => ?_, HB1.out⟩
    have h1 := HAL.out b hb h0
    simp [blk] at e
    omega
  case round =>
    obtain ⟨out, left, f, AO, co, AL, cl, rfl, rfl, hN, ho, hr, hfc, hap, hb⟩ := hrel
    have HN := Lib.hid hN
    have HO := Lib.hid ho
    have HR := Lib.hid hr
    have HB := Lib.hid hb
    have HAP := Lib.hid hap
    have hfl : left.length = f := hr.1
    have hcnt : out.length + f = n := by rw [hN.cnt, hl]
    clear hN ho hb hap
    rcases Nat.eq_zero_or_pos f with h0 | h0
    · subst h0
      have e := HN.out.stop
      clear hr
      go_wp2
      go_ret
      have hon : out.length = n := by omega
      exact ⟨AO, co, by rw [hon]; rfl, by rw [← e]; rw [← hon]; exact HO.out, HB.out⟩
    · obtain ⟨b, off, rfl, hbw, hc⟩ := hr.2 h0
      obtain ⟨f2, rfl⟩ : ∃ f2, f = f2 + 1 := ⟨f - 1, by omega⟩
      have HS := Lib.hid HN.out.step
      have hbl := bst_in (zs := left) (by omega)
      have HLT := Lib.hid (leastOnTop_any b off (f2 + 1) cl left wr HR.out (by omega) h0 hfc (HI.out.sub HN.out.sub))
      rw [hfl] at hbl
      obtain ⟨p, hp⟩ : ∃ p, p = bst left (f2 + 1) := ⟨_, rfl⟩
      rw [hfl, ← hp] at HS
      rw [← hp] at HLT hbl
      clear hp
      have hcp := hc p hbl
      have i0 : (0 : Int) ≤ (p : Int) := by omega
      have i1 : (p : Int) < ((f2 + 1 : Nat) : Int) := by omega
      have hapn : ∀ x, blk AO = some x → x ≠ b := fun x hx e => by
        have := HAP.out h0 b (by simp [blk])
        rw [hx, e] at this; exact this rfl
      have HAPN := Lib.hid hapn
      clear hc hr hapn
      go_wp2_with (first
        | (go_at_call 59; refine HLT.out.mono ?_; rintro e w3 ⟨rfl, hw3⟩; replace hw3 := hw3.symm; subst hw3)
        | (at_builtin; refine wpList_append_intsR _ rfl _ _ rfl w.heap.size AO out.length co out (some ⟨wr.heap.size, 0, none⟩) 1 1 [gi left p] rfl rfl (HO.out.alloc _) (RI.single' _ _) (by omega) (by omega) (by have := HB.out.size; simp; omega) ?_; intro A2 c2 w2 ho2 hg2; have HO2 := Lib.hid ho2; have HG2 := Lib.hid hg2; have HB2 := belGrown (belAlloc HB _) (HO.out.alloc _) hg2 (Nat.le_refl _); have HR2 : Hid (RI w2 (some ⟨b, off, none⟩) (f2 + 1) left) := RI.kept (HR.out.alloc _) hg2 (fun x hx e => HAPN.out x e (by simp [blk] at hx; exact hx.symm)); clear ho2 hg2)
        | (go_at_call 50; refine (with_any b off (f2 + 1) cl left p 1 1 rfl none 0 0 [] _ HR2.out (RI.empty _ none) (by omega) hfc (by omega) (by omega) (by omega)).mono ?_; rintro e w4 ⟨A4, c4, rfl, o4, hb4⟩; have O4 := Lib.hid o4; have HB4 : Hid (Below w.heap.size w w4) := belStep HB2 hb4; have HO4 : Hid (OI w4 w.heap.size A2 (out.length + 1) c2 (out ++ [gi left p])) := oiStep HO2 hb4; clear o4 hb4))
      go_roundw
      case rel =>
        have hmin : min p (f2 + 1) + (f2 - p) = f2 := by omega
        have hX := erase_cut (zs := left) (k := p) (by omega)
        have hXl : (left.take p ++ ([] ++ left.drop (p + 1))).length = f2 := by rw [hX, List.length_eraseIdx, if_pos (by omega)]; omega
        have o4 := O4.out
        rw [hXl, hX] at o4
        refine ⟨out ++ [gi left p], left.eraseIdx p, f2, A2, c2, A4, c4, by simp, by rw [hmin], HS.out, by simpa using HO4.out, o4.ri, o4.le, fun _ x hx e => ?_, HB4.out⟩
        have h1 := (o4.blk x hx).1
        have h2 := (HO2.out.blk x e).2
        omega
      case measure => simp [lenOf3]; omega
end Go.Proofs.Ytbilpjlbbglccaa
