/- What is given to all starts, of the model. -/
import Derived.Test.YthalcjgpjagcoaaPz2
import Derived.Test.YthalcjgpjagcoaaMgP
import Derived.Laws.DeepStrings4
namespace Go.Proofs.Ythalcjgpjagcoaa
open Go Go.RowKit

/-- the letter at one's bottom -/
def gvb (zs : List Int) (s : ByteArray) (i : Nat) : UInt8 := s.data.toList.getD (endOf zs (i : Int)).toNat 0
def gvl (zs : List Int) (s : ByteArray) : Nat → List UInt8
  | 0 => []
  | k + 1 => gvl zs s k ++ [gvb zs s k]
def gvt (zs : List Int) (s : ByteArray) (N : Nat) : ByteArray := ⟨(gvl zs s N).toArray⟩
theorem gvl_len (zs : List Int) (s : ByteArray) (k : Nat) : (gvl zs s k).length = k := by
  induction k with
  | zero => rfl
  | succ k ih => simp [gvl, ih]
theorem gvl_at (zs : List Int) (s : ByteArray) (N k : Nat) (h : k < N) : (gvl zs s N)[k]? = some (gvb zs s k) := by
  induction N with
  | zero => omega
  | succ N ih =>
    rw [gvl]
    by_cases e : k = N
    · subst e
      rw [List.getElem?_append_right (by rw [gvl_len]; exact Nat.le_refl _), gvl_len, Nat.sub_self]
      rfl
    · rw [List.getElem?_append_left (by rw [gvl_len]; omega)]
      exact ih (by omega)
theorem gvt_size (zs : List Int) (s : ByteArray) (N : Nat) : (gvt zs s N).size = N := by
  show (gvl zs s N).toArray.size = N
  simp [gvl_len]
theorem bg_gvt (zs : List Int) (s : ByteArray) (N k : Nat) (h : k < N) : bg (gvt zs s N) k = bg s (endOf zs (k : Int)).toNat := by
  have h1 := gvl_at zs s N k h
  unfold bg gvt
  simp only [List.getD_eq_getElem?_getD, h1, Option.getD_some]
  unfold gvb
  rw [List.getD_eq_getElem?_getD]

theorem ext1 {s : ByteArray} {x : Nat} (h : x < s.size) : s.extract x (x + 1) = ⟨#[s.data.toList.getD x 0]⟩ := by
  have h' : x < s.data.size := h
  apply ByteArray.ext
  rw [ByteArray.data_extract]
  apply Array.ext
  · simp; omega
  · intro i h1 h2
    have hi : i = 0 := by simp at h2; omega
    subst hi
    have h3 : x < s.data.toList.length := by simpa using h'
    simp [List.getD_eq_getElem?_getD, List.getElem?_eq_getElem h3]
theorem gvt_succ (zs : List Int) (s : ByteArray) (k : Nat) : gvt zs s (k + 1) = gvt zs s k ++ ⟨#[gvb zs s k]⟩ := by
  apply ByteArray.ext
  rw [ByteArray.data_append]
  simp [gvt, gvl]

set_option maxRecDepth 100000 in
set_option maxHeartbeats 2000000 in
theorem mrGiven_any (N : Nat) (A : Option Addr) (n c : Nat) (zs : List Int) (s : ByteArray) (w : World) (h : RI w A n zs) (hn : n ≤ 60) (hq : lad (N : Int) zs = true) (hs : s.size = N) :
    Calls Try.prog 54 #[.agg #[.int .i64 (N : Int), .slice A n c], .string s] w (fun e w' => e = .returned (.string (gvt zs s N)) ∧ Below w.heap.size w w') := by
  have hl := h.1
  have hN8 := (lad_iff.1 hq).1
  have HA := boxNew (W := (N : Int)) (c := c) 29 h
  have HB := belAlloc (belRefl (w := w)) (.cells #[.int .i64 (N : Int), .slice A n c] 29)
  have HR := Lib.hid (fun w2 (r : RI w2 A n zs) => laResult_any N A n c zs w2 r (by omega) hq)
  have HE := Lib.hid (fun i (hi : i < N) => (show 0 ≤ endOf zs (i : Int) ∧ endOf zs (i : Int) ≤ 7 ∧ endOf zs (i : Int) < (N : Int) by
    have h1 := at_le (W := (N : Int)) (zs := zs) (s := (i : Int)) (fun j hj => lad_at hq hj) (by omega) zs.length (Nat.le_refl _)
    unfold endOf
    omega))
  clear h hq
  go_enter Try.func54, Try.ntmps54
  have a0 := HA.out.c0; have a1 := HA.out.c1; have az := HA.out.lt
  go_wp2_with fail
  refine (HR.out _ HA.out.ri).mono ?_
  rintro e w2 ⟨A2, c2, rfl, o2, hb⟩
  have HO := Lib.hid o2
  replace HB := belStep HB hb
  clear o2 hb
  go_wp2
  go_loopw [5, 7, 14] (fun v _ i wr => ∃ k : Nat, k ≤ N ∧ i = .int .i64 (k : Int) ∧ v = .string (gvt zs s k) ∧ wr = w2) (fun _ _ i _ => N - (intOf i).toNat)
  case atStart => exact ⟨0, Nat.zero_le _, rfl, rfl, rfl⟩
  case round =>
    obtain ⟨k, hk, rfl, rfl, rfl⟩ := hrel
    by_cases hlt : k < N
    · obtain ⟨b, off, rfl, hbw, hc⟩ := HO.out.ri.cell hlt
      have hck := hc k hlt
      rw [gi_res _ _ _ hlt] at hck
      have he := HE.out k hlt
      obtain ⟨x, hx⟩ : ∃ x : Nat, endOf zs (k : Int) = (x : Int) := ⟨(endOf zs (k : Int)).toNat, by omega⟩
      rw [hx] at hck he
      have HX := Lib.hid hx
      have hxs : x < s.size := by omega
      have hgs := gvt_size zs s k
      obtain ⟨g, hg⟩ : ∃ g, g = gvt zs s k := ⟨_, rfl⟩
      rw [← hg] at hgs
      rw [← hg]
      have HG := Lib.hid hg
      have hw1 : IntKind.i64.wrap ((x : Int) + 1) = (x : Int) + 1 := IntWalk.i64_in _ (by omega)
      have i0 : (0 : Int) ≤ (x : Int) := by omega
      have i1 : (x : Int) ≤ (x : Int) + 1 := by omega
      have i2 : (x : Int) + 1 ≤ (s.size : Int) := by omega
      have i3 : ((x : Int) + 1).toNat = x + 1 := by omega
      have hsl : ∀ w', (Instr.slice 9 (.string s) (some (.int .i64 (x : Int))) (some (.int .i64 ((x : Int) + 1))) none).run Try.prog w' = .ok (.string ⟨#[gvb zs s k]⟩) w' := by
        intro w'
        rw [run_slice_string_if w' 9 s .i64 .i64 _ _ Try.underlying9, if_pos (by omega), if_pos (by omega), i3, Int.toNat_natCast, ext1 hxs]
        unfold gvb
        rw [HX.out, Int.toNat_natCast]
      obtain ⟨T, hT⟩ : ∃ T : ByteArray, T = ⟨#[gvb zs s k]⟩ := ⟨_, rfl⟩
      have hTs : T.size = 1 := by rw [hT]; rfl
      have HGS : Hid (gvt zs s (k + 1) = g ++ T) := by show _ = _; rw [gvt_succ, HG.out, hT]
      rw [← hT] at hsl
      have i4 : g.size + 1 ≤ 9223372036854775807 := by omega
      clear hc hx hg hT
      go_wp2
      go_roundw
      case rel =>
        exact ⟨k + 1, by omega, by go_num, by rw [HGS.out], by first | rfl | trivial⟩
      case measure => simp [intOf]; omega
    · obtain rfl : k = N := by omega
      go_wp2
      go_ret
      exact ⟨rfl, HB.out⟩
end Go.Proofs.Ythalcjgpjagcoaa
