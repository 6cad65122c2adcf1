/- How many least ladders of so many wires have so many rungs: the beginnings of the longest ones. -/
import Derived.Test.YtgeeifjbfceogaaGreatDoorMgK
import Derived.Test.YtgeeifjbfceogaaGreatDoorMgM
namespace Go.Proofs.YtgeeifjbfceogaaGreatDoor
open Go

def sm (l : List (List Int)) (f : List Int → Nat) : Nat := (l.map f).sum
def rs (m : Nat) (f : Nat → Nat) : Nat := ((List.range m).map f).sum
theorem sum_perm {a b : List Nat} (h : List.Perm a b) : a.sum = b.sum := by
  induction h with
  | nil => rfl
  | cons x _ ih => simp only [List.sum_cons, ih]
  | swap x y l => simp only [List.sum_cons]; omega
  | trans _ _ ih1 ih2 => exact ih1.trans ih2
theorem sm_nil (f : List Int → Nat) : sm [] f = 0 := rfl
theorem sm_cons (q : List Int) (l : List (List Int)) (f : List Int → Nat) : sm (q :: l) f = f q + sm l f := by simp [sm]
theorem sm_perm {a b : List (List Int)} (h : List.Perm a b) (f : List Int → Nat) : sm a f = sm b f := sum_perm (h.map f)
theorem sm_map (g : List Int → List Int) (l : List (List Int)) (f : List Int → Nat) : sm (l.map g) f = sm l (fun q => f (g q)) := by simp [sm, List.map_map]; rfl
theorem sm_congr {f g : List Int → Nat} : ∀ (l : List (List Int)), (∀ q ∈ l, f q = g q) → sm l f = sm l g
  | [], _ => rfl
  | q :: l, h => by rw [sm_cons, sm_cons, h q (by simp), sm_congr l (fun p hp => h p (by simp [hp]))]
theorem rs_succ (m : Nat) (f : Nat → Nat) : rs (m + 1) f = rs m f + f m := by simp [rs, List.range_succ]
theorem rs_congr {f g : Nat → Nat} : ∀ m, (∀ i, i < m → f i = g i) → rs m f = rs m g
  | 0, _ => rfl
  | m + 1, h => by rw [rs_succ, rs_succ, rs_congr m (fun i hi => h i (by omega)), h m (by omega)]
theorem rs_add (f g : Nat → Nat) : ∀ m, rs m (fun i => f i + g i) = rs m f + rs m g
  | 0 => rfl
  | m + 1 => by rw [rs_succ, rs_succ, rs_succ, rs_add f g m]; omega
theorem rs_zero : ∀ m, rs m (fun _ => 0) = 0
  | 0 => rfl
  | m + 1 => by rw [rs_succ, rs_zero m]
theorem rs_mul (c : Nat) (f : Nat → Nat) : ∀ m, c * rs m f = rs m (fun i => c * f i)
  | 0 => by simp [rs]
  | m + 1 => by rw [rs_succ, rs_succ, Nat.mul_add, rs_mul c f m]
theorem sm_rs (f : List Int → Nat → Nat) (m : Nat) : ∀ (l : List (List Int)), sm l (fun q => rs m (f q)) = rs m (fun i => sm l (fun q => f q i))
  | [] => by rw [sm_nil]; exact (rs_zero m).symm
  | q :: l => by
    rw [sm_cons, sm_rs f m l, ← rs_add]
    exact rs_congr m (fun i _ => (sm_cons q l (fun q => f q i)).symm)
theorem dsc_rs (q : List Int) (f : Nat → Nat) : ∀ k, ((dscK q k).map fun d => f d.toNat).sum = rs k (fun i => if gi q (i + 1) < gi q i then f i else 0)
  | 0 => rfl
  | k + 1 => by
    rw [rs_succ, ← dsc_rs q f k]
    simp only [dscK, List.map_append, List.sum_append]
    by_cases h : gi q (k + 1) < gi q k
    · rw [if_pos h, if_pos h]; simp
    · rw [if_neg h, if_neg h]; simp
theorem np_rs (k : Nat) (q : List Int) : np (k + 1) q = rs (q.length - 1) (fun i => if gi q (i + 1) < gi q i then np k (exch q i) else 0) := dsc_rs q (fun i => np k (exch q i)) (q.length - 1)
theorem cnt_rs {q : List Int} (h : 0 < ninv q) : cnt q = rs (q.length - 1) (fun i => if gi q (i + 1) < gi q i then cnt (exch q i) else 0) := (cnt_step h).trans (dsc_rs q (fun i => cnt (exch q i)) (q.length - 1))

/-- every number told from the other end -/
def cmp (n : Nat) (q : List Int) : List Int := q.map fun x => (n : Int) - 1 - x
theorem cmp_length (n : Nat) (q : List Int) : (cmp n q).length = q.length := by simp [cmp]
theorem gi_cmp {n : Nat} {q : List Int} {i : Nat} (h : i < q.length) : gi (cmp n q) i = (n : Int) - 1 - gi q i := by
  rw [gi_lt (by rw [cmp_length]; exact h), gi_lt h]
  simp [cmp]
theorem cmp_cmp (n : Nat) (q : List Int) : cmp n (cmp n q) = q := by
  refine gi_ext (by rw [cmp_length, cmp_length]) fun j hj => ?_
  rw [cmp_length, cmp_length] at hj
  rw [gi_cmp (by rw [cmp_length]; exact hj), gi_cmp hj]
  omega
theorem exch_cmp {n : Nat} {q : List Int} {i : Nat} (h : i + 1 < q.length) : exch (cmp n q) i = cmp n (exch q i) := by
  refine gi_ext (by rw [exch_length, cmp_length, cmp_length, exch_length]) fun j hj => ?_
  rw [exch_length, cmp_length] at hj
  have e1 := gi_exch (zs := cmp n q) (i := i) (by rw [cmp_length]; exact h) j
  have e2 : gi (cmp n (exch q i)) j = (n : Int) - 1 - gi (exch q i) j := gi_cmp (by rw [exch_length]; exact hj)
  rw [e1, e2, gi_exch h]
  by_cases h1 : j = i
  · rw [if_pos h1, if_pos h1, gi_cmp h]
  · rw [if_neg h1, if_neg h1]
    by_cases h2 : j = i + 1
    · rw [if_pos h2, if_pos h2, gi_cmp (by omega)]
    · rw [if_neg h2, if_neg h2, gi_cmp hj]
theorem OKp.cmp {n : Nat} {q : List Int} (h : OKp n q) : OKp n (Go.Proofs.YtgeeifjbfceogaaGreatDoor.cmp n q) := by
  obtain ⟨h1, h2, h3, h4⟩ := ord_iff.1 h.1
  refine ⟨ord_iff.2 ⟨by rw [cmp_length]; exact h1, by rw [cmp_length]; exact h2, fun x hx => ?_, ?_⟩, by rw [cmp_length, h.2]⟩
  · obtain ⟨y, hy, rfl⟩ := List.mem_map.1 hx
    have := h3 y hy
    rw [cmp_length, h.2]
    rw [h.2] at this
    omega
  · refine nodup_gi.2 fun i j hij hj => ?_
    rw [cmp_length] at hj
    rw [gi_cmp (by omega), gi_cmp hj]
    have := nodup_gi.1 h4 i j hij hj
    omega
theorem exch_exch {q : List Int} {i : Nat} (h : i + 1 < q.length) : exch (exch q i) i = q := by
  refine gi_ext (by rw [exch_length, exch_length]) fun j hj => ?_
  rw [gi_exch (by rw [exch_length]; exact h), gi_exch h, gi_exch h, gi_exch h]
  by_cases h1 : j = i
  · subst h1; simp
  · rw [if_neg h1, if_neg h1]
    by_cases h2 : j = i + 1
    · subst h2; simp
    · rw [if_neg h2, if_neg h2]

/-- all orders of n numbers, each once -/
structure AllO (n : Nat) (O : List (List Int)) : Prop where
  mem : ∀ q, q ∈ O ↔ OKp n q
  nd : O.Nodup
theorem perm_of_mem {a b : List (List Int)} (ha : a.Nodup) (hb : b.Nodup) (h : ∀ q, q ∈ a ↔ q ∈ b) : List.Perm a b := by
  rw [List.perm_iff_count]
  intro q
  rw [ha.count, hb.count]
  by_cases hq : q ∈ a
  · rw [if_pos hq, if_pos ((h q).1 hq)]
  · rw [if_neg hq, if_neg (fun hc => hq ((h q).2 hc))]
theorem nodup_map {f g : List Int → List Int} : ∀ (l : List (List Int)), l.Nodup → (∀ q ∈ l, g (f q) = q) → (l.map f).Nodup
  | [], _, _ => by simp
  | q :: l, h, hg => by
    rw [List.nodup_cons] at h
    rw [List.map_cons, List.nodup_cons]
    refine ⟨fun hm => ?_, nodup_map l h.2 (fun p hp => hg p (by simp [hp]))⟩
    obtain ⟨p, hp, e⟩ := List.mem_map.1 hm
    have h1 := hg p (by simp [hp])
    have h2 := hg q (by simp)
    rw [e, h2] at h1
    exact h.1 (h1 ▸ hp)
theorem AllO.perm {n : Nat} {O : List (List Int)} (h : AllO n O) {f : List Int → List Int} (hf : ∀ q, OKp n q → OKp n (f q) ∧ f (f q) = q) : List.Perm (O.map f) O := by
  refine perm_of_mem (nodup_map (g := f) O h.nd (fun q hq => (hf q ((h.mem q).1 hq)).2)) h.nd fun q => ⟨fun hq => ?_, fun hq => ?_⟩
  · obtain ⟨p, hp, rfl⟩ := List.mem_map.1 hq
    exact (h.mem _).2 (hf p ((h.mem p).1 hp)).1
  · have hk := (h.mem q).1 hq
    exact List.mem_map.2 ⟨f q, (h.mem _).2 (hf q hk).1, (hf q hk).2⟩

def Fk (n k : Nat) (q : List Int) : Nat := if ninv (cmp n q) = k then cnt (cmp n q) else 0
theorem Fk_step {n k : Nat} {q : List Int} (h : OKp n q) : Fk n (k + 1) q = rs (n - 1) (fun i => if gi q i < gi q (i + 1) then Fk n k (exch q i) else 0) := by
  have hl := h.2
  unfold Fk
  by_cases hk : ninv (cmp n q) = k + 1
  · rw [if_pos hk, cnt_rs (by omega), cmp_length, hl]
    refine rs_congr _ fun i hi => ?_
    rw [gi_cmp (by omega), gi_cmp (by omega), exch_cmp (by omega)]
    by_cases hd : gi q i < gi q (i + 1)
    · rw [if_pos (by omega), if_pos hd]
      have h2 := ninv_exch (cmp n q) i (by rw [cmp_length]; omega) (by rw [gi_cmp (by omega), gi_cmp (by omega)]; omega)
      rw [exch_cmp (by omega)] at h2
      rw [if_pos (by omega)]
    · rw [if_neg (by omega), if_neg hd]
  · rw [if_neg hk]
    refine ((rs_congr (g := fun _ => 0) (n - 1) fun i hi => ?_).trans (rs_zero _)).symm
    by_cases hd : gi q i < gi q (i + 1)
    · rw [if_pos hd]
      have h2 := ninv_exch (cmp n q) i (by rw [cmp_length]; omega) (by rw [gi_cmp (by omega), gi_cmp (by omega)]; omega)
      rw [exch_cmp (by omega)] at h2
      rw [if_neg (by omega)]
    · rw [if_neg hd]

theorem rk_zero : ∀ (l : List Int), ninv l = 0 → rkA 0 l = 0
  | [], _ => rfl
  | x :: xs, h => by
    simp only [ninv] at h
    simp only [rkA, Nat.zero_mul, Nat.zero_add]
    rw [show lessN x xs = 0 by omega]
    exact rk_zero xs (by omega)
theorem upto_ninv (n : Nat) : ninv (upto n) = 0 := by
  refine ninv_rising _ (rising_of_steps _ fun i hi => ?_)
  rw [upto_len] at hi
  rw [gi_lt (by rw [upto_len]; omega), gi_lt (by rw [upto_len]; omega)]
  simp [upto]
  omega
theorem upto_ok {n : Nat} (h1 : 1 ≤ n) (h8 : n ≤ 8) : OKp n (upto n) := by
  refine ⟨ord_iff.2 ⟨by rw [upto_len]; exact h1, by rw [upto_len]; exact h8, fun x hx => ?_, ?_⟩, upto_len n⟩
  · rw [upto_len]
    obtain ⟨k, hk, rfl⟩ := List.mem_map.1 hx
    have := List.mem_range.1 hk
    omega
  · refine nodup_gi.2 fun i j hij hj => ?_
    rw [upto_len] at hj
    rw [gi_lt (by rw [upto_len]; omega), gi_lt (by rw [upto_len]; omega)]
    simp [upto]
    omega
theorem sorted_upto {n : Nat} {q : List Int} (h : OKp n q) (h0 : ninv q = 0) : q = upto n := by
  have h1 := (ord_iff.1 h.1).1
  have h2 := (ord_iff.1 h.1).2.1
  have hu := upto_ok (n := n) (by have := h.2; omega) (by have := h.2; omega)
  exact rk_inj q (upto n) (ord_perms h.1 hu.1 (by rw [h.2, hu.2])) (by rw [rk_zero q h0, rk_zero _ (upto_ninv n)])
/-- the order backwards -/
def topO (n : Nat) : List Int := cmp n (upto n)
theorem Fk_zero {n : Nat} {q : List Int} (h : OKp n q) : Fk n 0 q = if q = topO n then 1 else 0 := by
  unfold Fk
  by_cases h0 : ninv (cmp n q) = 0
  · have e : q = topO n := by
      have := sorted_upto h.cmp h0
      unfold topO
      rw [← this, cmp_cmp]
    rw [if_pos h0, if_pos e, cnt_sorted h0]
  · have e : q ≠ topO n := fun e => h0 (by rw [e]; unfold topO; rw [cmp_cmp]; exact upto_ninv n)
    rw [if_neg h0, if_neg e]
theorem sm_single {q : List Int} (g : List Int → Nat) : ∀ (l : List (List Int)), l.Nodup → q ∈ l → sm l (fun p => (if p = q then 1 else 0) * g p) = g q
  | [], _, h => by cases h
  | p :: l, hn, h => by
    rw [List.nodup_cons] at hn
    rw [sm_cons]
    by_cases e : p = q
    · subst e
      have : sm l (fun p' => (if p' = p then 1 else 0) * g p') = sm l (fun _ => 0) := sm_congr l (fun p' hp' => by
        rw [if_neg (show p' ≠ p from fun e2 => hn.1 (e2 ▸ hp')), Nat.zero_mul])
      rw [this]
      have h0 : ∀ l' : List (List Int), sm l' (fun _ => 0) = 0 := fun l' => by
        induction l' with
        | nil => rfl
        | cons a r ih => rw [sm_cons, ih]
      rw [h0]
      simp
    · rw [if_neg e, Nat.zero_mul, Nat.zero_add]
      rcases List.mem_cons.1 h with h | h
      · exact absurd h.symm e
      · exact sm_single g l hn.2 h
theorem ways {n : Nat} {O : List (List Int)} (hO : AllO n O) (h1 : 1 ≤ n) (h8 : n ≤ 8) : ∀ (k j : Nat), sm O (fun q => Fk n k q * np j q) = np (k + j) (topO n)
  | 0, j => by
    rw [Nat.zero_add, sm_congr (g := fun q => (if q = topO n then 1 else 0) * np j q) O (fun q hq => by rw [Fk_zero ((hO.mem q).1 hq)])]
    exact sm_single (np j) O hO.nd ((hO.mem _).2 (upto_ok h1 h8).cmp)
  | k + 1, j => by
    have ih := ways hO h1 h8 k (j + 1)
    rw [show k + 1 + j = k + (j + 1) by omega, ← ih]
    have e1 : sm O (fun q => Fk n (k + 1) q * np j q) = sm O (fun q => rs (n - 1) (fun i => (if gi q i < gi q (i + 1) then Fk n k (exch q i) else 0) * np j q)) := sm_congr O fun q hq => by
      rw [Fk_step ((hO.mem q).1 hq), Nat.mul_comm, rs_mul]
      exact rs_congr _ fun i _ => Nat.mul_comm _ _
    have e2 : sm O (fun q => Fk n k q * np (j + 1) q) = sm O (fun q => rs (n - 1) (fun i => Fk n k q * (if gi q (i + 1) < gi q i then np j (exch q i) else 0))) := sm_congr O fun q hq => by
      rw [np_rs, ((hO.mem q).1 hq).2, rs_mul]
    rw [e1, e2, sm_rs, sm_rs]
    refine rs_congr _ fun i hi => ?_
    have hp := hO.perm (f := fun q => exch q i) (fun q hq => ⟨hq.exch (by omega), exch_exch (by rw [hq.2]; omega)⟩)
    rw [← sm_perm hp, sm_map]
    refine sm_congr O fun q hq => ?_
    have hq := (hO.mem q).1 hq
    have hl : i + 1 < q.length := by rw [hq.2]; omega
    have g1 : gi (exch q i) i = gi q (i + 1) := by rw [gi_exch hl, if_pos rfl]
    have g2 : gi (exch q i) (i + 1) = gi q i := by rw [gi_exch hl, if_neg (by omega), if_pos rfl]
    rw [exch_exch hl, g1, g2]
    by_cases hd : gi q (i + 1) < gi q i
    · rw [if_pos hd, if_pos hd]
    · rw [if_neg hd, if_neg hd, Nat.zero_mul, Nat.mul_zero]
/-- so many least ladders of k rungs as beginnings of k rungs of the longest ones -/
theorem by_length {n : Nat} {O : List (List Int)} (hO : AllO n O) (h1 : 1 ≤ n) (h8 : n ≤ 8) (k : Nat) : sm O (fun c => if ninv c = k then cnt c else 0) = np k (topO n) := by
  have h := ways hO h1 h8 k 0
  have hp := hO.perm (f := cmp n) (fun q hq => ⟨hq.cmp, cmp_cmp n q⟩)
  rw [← sm_perm hp, sm_map]
  rw [Nat.add_zero] at h
  rw [← h]
  refine sm_congr O fun q _ => ?_
  show _ = Fk n k q * 1
  rw [Nat.mul_one]
  rfl
end Go.Proofs.YtgeeifjbfceogaaGreatDoor
