/- The model counts, wire by wire, in how many ladders one comes out at each. -/
import Derived.Test.YtbgkhehopldilaaCe2
import Derived.Test.YtbgkhehopldilaaMgB
namespace Go.Proofs.Ytbgkhehopldilaa
open Go Go.RowKit

theorem sumr_upd (F G : Nat → Nat) (v : Nat) : ∀ (n : Nat), v < n → (∀ x, x < n → x ≠ v → F x = G x) → ((List.range n).map F).sum + G v = ((List.range n).map G).sum + F v
  | 0, h, _ => absurd h (by omega)
  | n + 1, h, hx => by
    rw [List.range_succ, List.map_append, List.map_append, List.sum_append, List.sum_append]
    simp only [List.map_cons, List.map_nil, List.sum_cons, List.sum_nil, Nat.add_zero]
    by_cases e : v = n
    · subst e
      have h1 : (List.range v).map F = (List.range v).map G := List.map_congr_left fun x hm => hx x (by have := List.mem_range.1 hm; omega) (by have := List.mem_range.1 hm; omega)
      rw [h1]; omega
    · have ih := sumr_upd F G v n (by omega) (fun x hl hn => hx x (by omega) hn)
      have h2 := hx n (by omega) (by omega)
      omega
theorem sumn_mem_le {x : Nat} : ∀ {l : List Nat}, x ∈ l → x ≤ l.sum
  | y :: r, h => by
    rw [List.sum_cons]
    rcases List.mem_cons.1 h with rfl | h
    · omega
    · have := sumn_mem_le h; omega
/-- what a row weighs -/
def dot (f : Int → Nat) (Z : List Int) : Nat := ((List.range Z.length).map fun (v : Nat) => f (v : Int) * (gi Z v).toNat).sum
theorem dot_set (f : Int → Nat) {Z : List Int} {v c : Nat} (hv : v < Z.length) (h0 : 0 ≤ gi Z v) : dot f (Z.set v (gi Z v + (c : Int))) = dot f Z + f (v : Int) * c := by
  unfold dot
  rw [List.length_set]
  have h := sumr_upd (fun x => f (x : Int) * (gi (Z.set v (gi Z v + (c : Int))) x).toNat) (fun x => f (x : Int) * (gi Z x).toNat) v Z.length hv (fun x _ hn => by
    show f (x : Int) * (gi (Z.set v (gi Z v + (c : Int))) x).toNat = f (x : Int) * (gi Z x).toNat
    rw [gi_set _ _ _ _ hv, if_neg hn])
  have e : (gi (Z.set v (gi Z v + (c : Int))) v).toNat = (gi Z v).toNat + c := by
    rw [gi_set _ _ _ _ hv, if_pos rfl]; omega
  simp only [e, Nat.mul_add] at h
  omega
theorem dot_at (f : Int → Nat) {Z : List Int} {v : Nat} (hv : v < Z.length) : f (v : Int) * (gi Z v).toNat ≤ dot f Z := by
  unfold dot
  have hm : f (v : Int) * (gi Z v).toNat ∈ (List.range Z.length).map fun (v : Nat) => f (v : Int) * (gi Z v).toNat := List.mem_map.2 ⟨v, List.mem_range.2 hv, rfl⟩
  exact sumn_mem_le hm
def ind (v : Int) : Int → Nat := fun x => if x = v then 1 else 0
def oneI : Int → Nat := fun _ => 1
theorem dot_ind {Z : List Int} {v : Nat} (hv : v < Z.length) : dot (ind (v : Int)) Z = (gi Z v).toNat := by
  have h := sumr_upd (fun (x : Nat) => ind (v : Int) (x : Int) * (gi Z x).toNat) (fun _ => 0) v Z.length hv (fun x _ hn => by
    show ind (v : Int) (x : Int) * (gi Z x).toNat = 0
    unfold ind; rw [if_neg (by omega), Nat.zero_mul])
  have e : ind (v : Int) (v : Int) = 1 := by unfold ind; rw [if_pos rfl]
  rw [ssum_const] at h
  unfold dot
  simp only [e] at h
  omega
/-- in how many ladders one comes out at each wire -/
def endsC (n k : Nat) (s : Int) : List Int := (List.range n).map fun (v : Nat) => ((ups ovW (n - 1) k (ind (v : Int)) s : Nat) : Int)
theorem endsC_length (n k : Nat) (s : Int) : (endsC n k s).length = n := by simp [endsC]
theorem gi_endsC {n k v : Nat} {s : Int} (h : v < n) : gi (endsC n k s) v = ((ups ovW (n - 1) k (ind (v : Int)) s : Nat) : Int) := by
  rw [gi_lt (by rw [endsC_length]; exact h)]; simp [endsC]
theorem ind_le (v x : Int) : ind v x ≤ 1 := by unfold ind; split <;> omega
theorem ways_le {n k : Nat} (hn : n ≤ 6) (hk : k ≤ 20) (v s : Int) : ups ovW (n - 1) k (ind v) s ≤ 95367431640625 := by
  have h := ups_le_const (ov := ovW) (m := n - 1) k 1 (ind_le v) s
  have := pow5 (m := n - 1) (j := k) (by omega) hk
  omega
theorem endsC_in {n k v : Nat} {s : Int} (h : v < n) (hn : n ≤ 6) (hk : k ≤ 20) : 0 ≤ gi (endsC n k s) v ∧ gi (endsC n k s) v ≤ 95367431640625 := by
  rw [gi_endsC h]
  have := ways_le hn hk (v : Int) s
  omega

/-- a row that weighs what the ladders of j rungs do -/
structure Rep (n j : Nat) (s : Int) (Z : List Int) : Prop where
  len : Z.length = n
  pos : ∀ v, v < n → 0 ≤ gi Z v
  wgt : ∀ f, dot f Z = ups ovW (n - 1) j f s
theorem Rep.ends {n j : Nat} {s : Int} {Z : List Int} (h : Rep n j s Z) : Z = endsC n j s := by
  refine gi_ext (by rw [h.len, endsC_length]) fun v hv => ?_
  have hv' : v < n := by rw [← h.len]; exact hv
  have h1 := dot_ind hv
  rw [h.wgt] at h1
  have h2 := h.pos v hv'
  rw [gi_endsC hv', h1]
  omega
theorem zeros_gi (n v : Nat) : gi (List.replicate n (0 : Int)) v = 0 := by
  unfold gi
  rw [List.getD_eq_getElem?_getD, List.getElem?_replicate]
  split <;> rfl
theorem dot_zeros (f : Int → Nat) (n : Nat) : dot f (List.replicate n 0) = 0 := by
  unfold dot
  have h : (fun (v : Nat) => f (v : Int) * (gi (List.replicate n 0) v).toNat) = fun _ => 0 := by
    funext v
    rw [zeros_gi]; rfl
  rw [h, ssum_const, Nat.mul_zero]
theorem Rep.start {n s : Nat} (hs : s < n) : Rep n 0 (s : Int) ((List.replicate n (0 : Int)).set s 1) := by
  have e : (List.replicate n (0 : Int)).set s 1 = (List.replicate n (0 : Int)).set s (gi (List.replicate n (0 : Int)) s + ((1 : Nat) : Int)) := by rw [zeros_gi]; rfl
  have hl : s < (List.replicate n (0 : Int)).length := by simpa using hs
  refine ⟨by simp, fun v hv => ?_, fun f => ?_⟩
  · rw [gi_set _ _ _ _ hl, zeros_gi]; split <;> omega
  · rw [e, dot_set f hl (by rw [zeros_gi]; omega), dot_zeros]
    simp [ups]
/-- while the next row is made: the wires below i are done, and r rungs of wire i -/
structure Mak (n : Nat) (Z : List Int) (i r : Nat) (Y : List Int) : Prop where
  len : Y.length = n
  pos : ∀ v, v < n → 0 ≤ gi Y v
  wgt : ∀ f, dot f Y = ((List.range i).map fun (x : Nat) => up ovW (n - 1) f (x : Int) * (gi Z x).toNat).sum + up ovW r f (i : Int) * (gi Z i).toNat
theorem Mak.start (n : Nat) (Z : List Int) : Mak n Z 0 0 (List.replicate n 0) :=
  ⟨by simp, fun v _ => by rw [zeros_gi]; omega, fun f => by rw [dot_zeros, up_zero]; simp⟩
theorem Mak.next {n i : Nat} {Z Y : List Int} (h : Mak n Z i (n - 1) Y) : Mak n Z (i + 1) 0 Y :=
  ⟨h.len, h.pos, fun f => by rw [h.wgt f, up_zero, List.range_succ, List.map_append, List.sum_append]; simp⟩
theorem Mak.step {n i r v : Nat} {Z Y : List Int} (h : Mak n Z i r Y) (hv : v < n) (he : ovW (i : Int) (r : Int) = (v : Int)) {c : Nat} (hc : gi Z i = (c : Int)) : Mak n Z i (r + 1) (Y.set v (gi Y v + (c : Int))) := by
  have hl : v < Y.length := by rw [h.len]; exact hv
  refine ⟨by rw [List.length_set]; exact h.len, fun x hx => ?_, fun f => ?_⟩
  · rw [gi_set _ _ _ _ hl]
    have h1 := h.pos v hv
    have h2 := h.pos x hx
    split <;> omega
  · rw [dot_set f hl (h.pos v hv), h.wgt f, up_succ, he, hc, Int.toNat_natCast, Nat.add_mul]
    omega
theorem Mak.done {n j : Nat} {s : Int} {Z Y : List Int} (hZ : Rep n j s Z) (h : Mak n Z n 0 Y) : Rep n (j + 1) s Y :=
  ⟨h.len, h.pos, fun f => by
    rw [h.wgt f, up_zero, Nat.zero_mul, Nat.add_zero, ups_succ_in, ← hZ.wgt]
    unfold dot
    rw [hZ.len]⟩
  where ups_succ_in {f : Int → Nat} : ups ovW (n - 1) (j + 1) f s = ups ovW (n - 1) j (up ovW (n - 1) f) s := rfl
theorem Mak.small {n i r j : Nat} {s : Int} {Z Y : List Int} (hZ : Rep n j s Z) (h : Mak n Z i r Y) (hi : i < n) (hr : r ≤ n - 1) (hn : n ≤ 6) (hj : j < 20) {v : Nat} (hv : v < n) : 0 ≤ gi Y v ∧ gi Y v ≤ 95367431640625 := by
  have h0 := h.pos v hv
  have h1 := dot_at oneI (Z := Y) (v := v) (by rw [h.len]; exact hv)
  have h2 := h.wgt oneI
  have e1 : ∀ (q : Nat) (x : Int), up ovW q oneI x = q := fun q x => by
    show up ovW q (fun _ => 1) x = q
    rw [up_const]; simp
  simp only [e1] at h2
  have h3 : dot oneI Z = (n - 1) ^ j := by
    rw [hZ.wgt oneI]
    show ups ovW (n - 1) j (fun _ => 1) s = _
    rw [ups_const]; simp
  have h4 : ((List.range i).map fun (x : Nat) => (n - 1) * (gi Z x).toNat).sum + r * (gi Z i).toNat ≤ (n - 1) * dot oneI Z := by
    rw [ssum_mul]
    have h5 : ((List.range i).map fun (x : Nat) => (gi Z x).toNat).sum + (gi Z i).toNat ≤ dot oneI Z := by
      unfold dot
      rw [hZ.len]
      have h6 : ((List.range (i + 1)).map fun (x : Nat) => (gi Z x).toNat).sum ≤ ((List.range n).map fun (x : Nat) => (gi Z x).toNat).sum := by
        obtain ⟨d, rfl⟩ : ∃ d, n = i + 1 + d := ⟨n - (i + 1), by omega⟩
        rw [show List.range (i + 1 + d) = List.range (i + 1) ++ (List.range d).map (fun x => i + 1 + x) from List.range_add, List.map_append, List.sum_append]
        omega
      rw [List.range_succ, List.map_append, List.sum_append] at h6
      have h7 : (fun (v : Nat) => oneI (v : Int) * (gi Z v).toNat) = fun (x : Nat) => (gi Z x).toNat := by funext x; exact Nat.one_mul _
      rw [h7]
      simpa using h6
    have h8 : r * (gi Z i).toNat ≤ (n - 1) * (gi Z i).toNat := Nat.mul_le_mul_right _ hr
    have h9 := Nat.mul_le_mul_left (n - 1) h5
    rw [Nat.mul_add] at h9
    omega
  rw [h3, show (n - 1) * (n - 1) ^ j = (n - 1) ^ (j + 1) from (Nat.pow_succ' ..).symm] at h4
  have h10 := pow5 (m := n - 1) (j := j + 1) (by omega) (by omega)
  have h11 : oneI (v : Int) * (gi Y v).toNat = (gi Y v).toNat := Nat.one_mul _
  rw [h11] at h1
  omega
end Go.Proofs.Ytbgkhehopldilaa
