import PyProof.Rows.All
import KE.OsGo
import KE.OsMore
import PySem.Challenge.RW_turnstree_s05_rank
open PySem PySem.W
set_option Elab.async false
namespace Req
theorem dec_cons {c : Codec} {cs : List Codec} {d : WData} {ds : List WData} (h : (Codec.decAll (c :: cs) (d :: ds)).isSome = true) :
    (Codec.decAll [c] [d]).isSome = true ∧ (Codec.decAll cs ds).isSome = true := by
  have e : Codec.decAll (c :: cs) (d :: ds) = Codec.both Prod.mk (c.dec d) (Codec.decAll cs ds) := rfl
  have e1 : Codec.decAll [c] [d] = Codec.both Prod.mk (c.dec d) (some ()) := rfl
  rw [e] at h
  rw [e1]
  cases h1 : c.dec d with
  | none =>
    rw [h1] at h
    cases h
  | some a =>
    cases h2 : Codec.decAll cs ds with
    | none =>
      rw [h1, h2] at h
      cases h
    | some r => exact ⟨rfl, rfl⟩
theorem dec_join {c : Codec} {cs : List Codec} {d : WData} {ds : List WData} {a : c.denote} {r : Codec.denoteAll cs} (h1 : Codec.decAll [c] [d] = some (a, ())) (h2 : Codec.decAll cs ds = some r) :
    Codec.decAll (c :: cs) (d :: ds) = some (a, r) := by
  have e : Codec.decAll (c :: cs) (d :: ds) = Codec.both Prod.mk (c.dec d) (Codec.decAll cs ds) := rfl
  have e1 : Codec.decAll [c] [d] = Codec.both Prod.mk (c.dec d) (some ()) := rfl
  rw [e1] at h1
  rw [e, h2]
  cases h3 : c.dec d with
  | none =>
    rw [h3] at h1
    cases h1
  | some b =>
    rw [h3] at h1
    cases h1
    rfl
theorem dec_int {lo hi k : Int} (h : (Codec.decAll [.int lo hi] [WData.int k]).isSome = true) : Codec.decAll [.int lo hi] [WData.int k] = some (k, ()) ∧ lo ≤ k ∧ k ≤ hi := by
  have e : Codec.decAll [.int lo hi] [WData.int k] = Codec.both Prod.mk (if Codec.inInt lo hi k = true then some k else none) (some ()) := rfl
  rw [e] at h ⊢
  cases h1 : Codec.inInt lo hi k with
  | false =>
    rw [h1] at h
    cases h
  | true =>
    unfold Codec.inInt at h1
    simp only [Bool.and_eq_true, decide_eq_true_eq] at h1
    exact ⟨rfl, h1.1, h1.2⟩
theorem same_list {l k : List Int} (h : l = k) : same (WData.list (ofPys (l.map PyData.int))) (WData.list (k.map WData.int)) = true := by
  subst h
  rw [ofPys_ints]
  exact same_self _
end Req
namespace S05
open Rb40

/-- Of the lower number y, how many upper ones below k count. -/
def ok (a b y x : Nat) : Bool := Nat.gcd x y == 1 && decide (x * b ≤ a * y)
def inner (a b y k : Nat) : Nat := ((List.range k).filter (ok a b y)).length
theorem inner_zero (a b y : Nat) : inner a b y 0 = 0 := rfl
theorem inner_yes {a b y k : Nat} (g : Nat.gcd k y = 1) (h : k * b ≤ a * y) : inner a b y (k + 1) = inner a b y k + 1 := by
  unfold inner
  rw [List.range_succ, List.filter_append, List.length_append]
  have : ok a b y k = true := by simp [ok, g, h]
  simp [List.filter, this]
theorem inner_no {a b y k : Nat} (h : ¬ (Nat.gcd k y = 1 ∧ k * b ≤ a * y)) : inner a b y (k + 1) = inner a b y k := by
  unfold inner
  rw [List.range_succ, List.filter_append, List.length_append]
  have : ok a b y k = false := by
    cases e : ok a b y k with
    | false => rfl
    | true =>
      simp only [ok, Bool.and_eq_true, beq_iff_eq, decide_eq_true_eq] at e
      exact absurd e h
  simp [List.filter, this]
/-- Above the bound none counts. -/
theorem inner_more {a b y m : Nat} (h : ∀ x, m ≤ x → a * y < x * b) : ∀ k, m ≤ k → inner a b y k = inner a b y m := by
  intro k
  induction k with
  | zero => intro l; rw [show m = 0 by omega]
  | succ k ih =>
    intro l
    rcases (by omega : m = k + 1 ∨ m ≤ k) with e | e
    · rw [e]
    · rw [inner_no (fun g => by have := h k e; omega), ih e]
/-- Up to the lower numbers below n. -/
def outer (a b n : Nat) : Nat := rank n a b
theorem outer_zero (a b : Nat) : outer a b 0 = 0 := rfl
theorem outer_succ (a b n : Nat) : outer a b (n + 1) = outer a b n + inner a b (n + 1) (n + 2) := by
  unfold outer rank
  rw [List.range_succ, List.map_append, List.sum_append]
  simp only [List.map_cons, List.map_nil, List.sum_cons, List.sum_nil, Nat.add_zero]
  rfl
theorem inner_le (a b y k : Nat) : inner a b y k ≤ k := by
  unfold inner
  exact Nat.le_trans (List.length_filter_le _ _) (by simp)
theorem due (n a b : Int) : PyRb40.rank n a b = [((outer a.toNat b.toNat n.toNat : Nat) : Int)] := rfl
end S05
namespace S05
open Rb40
/-- How many below N. -/
def cn (q : Nat → Bool) : Nat → Nat
  | 0 => 0
  | N + 1 => cn q N + (if q N = true then 1 else 0)
theorem cn_filter (q : Nat → Bool) : ∀ N, ((List.range N).filter q).length = cn q N
  | 0 => rfl
  | N + 1 => by
    rw [List.range_succ, List.filter_append, List.length_append, cn_filter q N]
    by_cases h : q N = true
    · simp [cn, List.filter, h]
    · simp [cn, List.filter, h]
theorem cn_congr {p q : Nat → Bool} : ∀ {N : Nat}, (∀ x, x < N → p x = q x) → cn p N = cn q N
  | 0, _ => rfl
  | N + 1, h => by
    unfold cn
    rw [cn_congr (fun x l => h x (by omega)), h N (by omega)]
theorem cn_split {p q r : Nat → Bool} : ∀ {N : Nat}, (∀ x, x < N → (p x = true ↔ q x = true ∨ r x = true) ∧ ¬ (q x = true ∧ r x = true)) → cn p N = cn q N + cn r N
  | 0, _ => rfl
  | N + 1, h => by
    unfold cn
    rw [cn_split (p := p) (q := q) (r := r) (fun x l => h x (by omega))]
    obtain ⟨h1, h2⟩ := h N (by omega)
    by_cases hq : q N = true
    · have hr : ¬ r N = true := fun hr => h2 ⟨hq, hr⟩
      rw [if_pos (h1.mpr (Or.inl hq)), if_pos hq, if_neg hr]
      omega
    · by_cases hr : r N = true
      · rw [if_pos (h1.mpr (Or.inr hr)), if_neg hq, if_pos hr]
        omega
      · rw [if_neg (fun hp => (h1.mp hp).elim hq hr), if_neg hq, if_neg hr]
        omega
theorem cn_none {p : Nat → Bool} : ∀ {N : Nat}, (∀ x, x < N → p x = false) → cn p N = 0
  | 0, _ => rfl
  | N + 1, h => by
    unfold cn
    rw [cn_none (fun x l => h x (by omega)), h N (by omega)]
    rfl
/-- Only multiples of t count: over them. -/
theorem cn_gap {p : Nat → Bool} {t : Nat} (d : ∀ x, p x = true → t ∣ x) (l : Nat) : ∀ k, k < t → cn p (t * l + 1 + k) = cn p (t * l + 1)
  | 0, _ => rfl
  | k + 1, h => by
    have no : ¬ p (t * l + 1 + k) = true := fun hp => by
      have e := d _ hp
      rw [Nat.add_assoc] at e
      have e2 := (Nat.dvd_add_right (Nat.dvd_mul_right t l)).mp e
      have := Nat.le_of_dvd (by omega) e2
      omega
    show cn p (t * l + 1 + k) + (if p (t * l + 1 + k) = true then 1 else 0) = _
    rw [if_neg no, cn_gap d l k (by omega)]
    rfl
theorem cn_mul {p : Nat → Bool} {t : Nat} (t0 : 0 < t) (d : ∀ x, p x = true → t ∣ x) : ∀ l : Nat, cn p (t * l + 1) = cn (fun y => p (t * y)) (l + 1)
  | 0 => by
    rw [Nat.mul_zero]
    unfold cn
    rw [Nat.mul_zero]
    rfl
  | l + 1 => by
    have e : t * (l + 1) + 1 = (t * l + 1 + (t - 1)) + 1 := by rw [Nat.mul_add]; omega
    have e2 : t * l + 1 + (t - 1) = t * (l + 1) := by rw [Nat.mul_add]; omega
    rw [e]
    show cn p (t * l + 1 + (t - 1)) + (if p (t * l + 1 + (t - 1)) = true then 1 else 0) = cn (fun y => p (t * y)) (l + 1) + (if p (t * (l + 1)) = true then 1 else 0)
    rw [cn_gap d l (t - 1) (by omega), cn_mul t0 d l, e2]
/-- Of the lower number m, above 0, those no greater whose lowest lower number is as p says. -/
def pick (a b m : Nat) (p : Nat → Bool) (x : Nat) : Bool := decide (0 < x) && (decide (x * b ≤ a * m) && p (m / Nat.gcd x m))
def cnt (a b m : Nat) (p : Nat → Bool) : Nat := cn (pick a b m p) (m + 1)
theorem pick_iff {a b m : Nat} {p : Nat → Bool} {x : Nat} : pick a b m p x = true ↔ 0 < x ∧ x * b ≤ a * m ∧ p (m / Nat.gcd x m) = true := by
  simp [pick]
theorem cnt_zero (a b : Nat) (p : Nat → Bool) : cnt a b 0 p = 0 := cn_none (fun x l => by
  have : x = 0 := by omega
  subst this
  rfl)
/-- What is left of m when the common part is taken out. -/
theorem part {x m : Nat} (x0 : 0 < x) (m0 : 0 < m) : 0 < m / Nat.gcd x m ∧ m / Nat.gcd x m * Nat.gcd x m = m ∧ 0 < Nat.gcd x m := by
  have g0 := Nat.gcd_pos_of_pos_left m x0
  have e := Nat.div_mul_cancel (Nat.gcd_dvd_right x m)
  refine ⟨?_, e, g0⟩
  rcases Nat.eq_zero_or_pos (m / Nat.gcd x m) with h | h
  · rw [h, Nat.zero_mul] at e
    omega
  · exact h
theorem cnt_congr {a b m : Nat} {p q : Nat → Bool} (h : ∀ d g, 0 < d → 0 < g → d * g = m → p d = q d) : cnt a b m p = cnt a b m q := by
  refine cn_congr fun x l => ?_
  unfold pick
  rcases Nat.eq_zero_or_pos x with rfl | x0
  · simp
  · rcases Nat.eq_zero_or_pos m with rfl | m0
    · omega
    · obtain ⟨h1, h2, h3⟩ := part x0 m0
      rw [h _ _ h1 h3 h2]
/-- The same fractions over t times the lower number. -/
theorem cnt_mul {a b l t : Nat} (t0 : 0 < t) (l0 : 0 < l) : cnt a b (t * l) (fun d => d == l) = cnt a b l (fun d => d == l) := by
  unfold cnt
  rw [cn_mul t0 (fun x hx => ?_) l]
  · refine cn_congr fun y _ => ?_
    have h1 : decide (0 < t * y) = decide (0 < y) := by
      rcases Nat.eq_zero_or_pos y with rfl | y0
      · simp
      · have := Nat.mul_pos t0 y0
        simp [this, y0]
    have h2 : decide (t * y * b ≤ a * (t * l)) = decide (y * b ≤ a * l) := by
      have e : a * (t * l) = t * (a * l) := by rw [← Nat.mul_assoc, Nat.mul_comm a t, Nat.mul_assoc]
      rw [e, Nat.mul_assoc]
      exact decide_eq_decide.mpr ⟨fun h => Nat.le_of_mul_le_mul_left h t0, fun h => Nat.mul_le_mul_left t h⟩
    have h3 : t * l / Nat.gcd (t * y) (t * l) = l / Nat.gcd y l := by
      rw [Nat.gcd_mul_left, Nat.mul_div_mul_left _ _ t0]
    unfold pick
    rw [h1, h2, h3]
  · obtain ⟨x0, _, e⟩ := pick_iff.mp hx
    have e' : t * l / Nat.gcd x (t * l) = l := by simpa using e
    obtain ⟨_, p2, p3⟩ := part x0 (Nat.mul_pos t0 l0)
    rw [e', Nat.mul_comm l] at p2
    have : Nat.gcd x (t * l) = t := Nat.eq_of_mul_eq_mul_right l0 p2
    rw [← this]
    exact Nat.gcd_dvd_left x (t * l)
/-- All of the lower number m. -/
theorem cnt_all {a b m : Nat} (b0 : 0 < b) (ab : a ≤ b) : cnt a b m (fun d => decide (0 < d) || d == m) = a * m / b := by
  have hq : a * m / b ≤ m := by
    refine Nat.div_le_of_le_mul ?_
    exact Nat.mul_le_mul_right m ab
  have key : ∀ N : Nat, cn (pick a b m (fun d => decide (0 < d) || d == m)) (N + 1) = if N ≤ m then min N (a * m / b) else cn (pick a b m (fun d => decide (0 < d) || d == m)) (N + 1) := by
    intro N
    induction N with
    | zero =>
      rw [if_pos (Nat.zero_le _)]
      have : pick a b m (fun d => decide (0 < d) || d == m) 0 = false := rfl
      simp [cn, this]
    | succ N ih =>
      by_cases h : N + 1 ≤ m
      · rw [if_pos h]
        rw [if_pos (by omega)] at ih
        show cn _ (N + 1) + (if pick a b m (fun d => decide (0 < d) || d == m) (N + 1) = true then 1 else 0) = _
        rw [ih]
        obtain ⟨d0, _, _⟩ := part (show 0 < N + 1 by omega) (show 0 < m by omega)
        have pd : (fun d => decide (0 < d) || d == m) (m / Nat.gcd (N + 1) m) = true := by simp [d0]
        have iff : (N + 1) * b ≤ a * m ↔ N + 1 ≤ a * m / b := (Nat.le_div_iff_mul_le b0).symm
        by_cases c : N + 1 ≤ a * m / b
        · rw [if_pos (pick_iff.mpr ⟨by omega, iff.mpr c, pd⟩)]
          omega
        · rw [if_neg (fun hp => c (iff.mp (pick_iff.mp hp).2.1))]
          omega
      · rw [if_neg h]
  have := key m
  rw [if_pos (Nat.le_refl m)] at this
  unfold cnt
  rw [this]
  omega
/-- Those of the very lower number m: what the specification counts, but for 0. -/
theorem cnt_own {a b m : Nat} (m0 : 0 < m) : inner a b m (m + 1) = cnt a b m (fun d => d == m) + (if m = 1 then 1 else 0) := by
  unfold inner cnt
  rw [cn_filter]
  have one : cn (fun x => x == 0 && decide (m = 1)) (m + 1) = if m = 1 then 1 else 0 := by
    have : ∀ N, cn (fun x => x == 0 && decide (m = 1)) (N + 1) = if m = 1 then 1 else 0 := by
      intro N
      induction N with
      | zero => by_cases h : m = 1 <;> simp [cn, h]
      | succ N ih =>
        show cn _ (N + 1) + (if (N + 1 == 0 && decide (m = 1)) = true then 1 else 0) = _
        rw [if_neg (show ¬ (N + 1 == 0 && decide (m = 1)) = true by simp), ih]
        rfl
    exact this m
  rw [← one]
  refine cn_split fun x _ => ?_
  have o : ok a b m x = true ↔ Nat.gcd x m = 1 ∧ x * b ≤ a * m := by simp [ok]
  rcases Nat.eq_zero_or_pos x with rfl | x0
  · refine ⟨?_, fun h => by have := (pick_iff.mp h.1).1; omega⟩
    rw [o, Nat.gcd_zero_left]
    constructor
    · intro h
      right
      simp [h.1]
    · intro h
      rcases h with h | h
      · have := (pick_iff.mp h).1
        omega
      · have : m = 1 := by simpa using h
        exact ⟨this, by omega⟩
  · have z : ¬ (x == 0 && decide (m = 1)) = true := by
      simp
      omega
    refine ⟨?_, fun h => z h.2⟩
    rw [o, pick_iff]
    obtain ⟨d0, p2, g0⟩ := part x0 m0
    constructor
    · intro h
      left
      refine ⟨x0, h.2, ?_⟩
      rw [h.1, Nat.div_one]
      simp
    · intro h
      rcases h with h | h
      · have e : m / Nat.gcd x m = m := by simpa using h.2.2
        rw [e] at p2
        exact ⟨Nat.eq_of_mul_eq_mul_left m0 (by omega), h.2.1⟩
      · exact absurd h z
end S05
namespace S05
open Rb40
/-- Between two turns of the outer loop: up to j the lower numbers are taken. -/
structure W (a b n : Int) (j : Nat) (cs : List Int) : Prop where
  len : (cs.length : Int) = n + 1
  n0 : 1 ≤ n
  is : ∀ m : Nat, m ≤ n.toNat → cs.getD m 0 = ((cnt a.toNat b.toNat m (fun d => decide (j < d) || d == m) : Nat) : Int)
/-- Of the inner one: of the lower number l the first i + 1 multiples besides. -/
structure V (a b n l : Int) (i : Nat) (cs : List Int) : Prop where
  len : (cs.length : Int) = n + 1
  n0 : 1 ≤ n
  l0 : 1 ≤ l
  ln : l ≤ n
  is : ∀ m : Nat, m ≤ n.toNat → cs.getD m 0 = ((cnt a.toNat b.toNat m (fun d => decide (l.toNat < d) || (d == m || (d == l.toNat && decide ((2 + i) * l.toNat ≤ m)))) : Nat) : Int)
theorem two_times {l g : Nat} (ne : l ≠ l * g) (g0 : 0 < g) : 2 * l ≤ l * g := by
  have : g ≠ 1 := fun e => ne (by rw [e, Nat.mul_one])
  rw [Nat.mul_comm 2 l]
  exact Nat.mul_le_mul_left l (by omega)
theorem enter {a b n l : Int} {j : Nat} {cs : List Int} (w : W a b n j cs) (hl : l = 1 + (j : Int)) (ln : l ≤ n) : (cs.length : Int) = n + 1 ∧ V a b n l 0 cs := by
  refine ⟨w.len, w.len, w.n0, by omega, ln, fun m hm => ?_⟩
  rw [w.is m hm]
  congr 1
  refine cnt_congr fun d g d0 g0 e => ?_
  have ej : l.toNat = j + 1 := by omega
  rw [ej]
  apply Bool.eq_iff_iff.mpr
  simp only [Bool.or_eq_true, Bool.and_eq_true, decide_eq_true_eq, beq_iff_eq]
  constructor
  · intro h
    rcases h with h | h
    · rcases (by omega : j + 1 < d ∨ d = j + 1) with c | c
      · exact Or.inl c
      · by_cases dm : d = m
        · exact Or.inr (Or.inl dm)
        · refine Or.inr (Or.inr ⟨c, ?_⟩)
          have := two_times (l := d) (g := g) (by omega) g0
          rw [← c, Nat.add_zero]
          omega
    · exact Or.inr (Or.inl h)
  · intro h
    rcases h with h | h | h
    · exact Or.inl (by omega)
    · exact Or.inr h
    · exact Or.inl (by omega)
theorem leave {a b n l : Int} {i : Nat} {pre cs : List Int} (v : V a b n l i cs) (hl : l = 1 + (pre.length : Int)) (out : n + 1 ≤ 2 * l + (i : Int) * l) (len : (cs.length : Int) = n + 1) :
    (cs.length : Int) = n + 1 ∧ W a b n (pre ++ [l]).length cs := by
  refine ⟨len, len, v.n0, fun m hm => ?_⟩
  rw [v.is m hm]
  congr 1
  refine cnt_congr fun d g d0 g0 e => ?_
  have ej : (pre ++ [l]).length = l.toNat := by
    rw [List.length_append]
    show pre.length + 1 = _
    omega
  rw [ej]
  have big : m < (2 + i) * l.toNat := by
    have l0 := v.l0
    obtain ⟨L, rfl⟩ := Int.eq_ofNat_of_zero_le (show 0 ≤ l by omega)
    rw [Int.toNat_natCast, Nat.add_mul]
    have : ((i * L : Nat) : Int) = (i : Int) * (L : Int) := Int.natCast_mul i L
    omega
  apply Bool.eq_iff_iff.mpr
  simp only [Bool.or_eq_true, Bool.and_eq_true, decide_eq_true_eq, beq_iff_eq]
  omega
theorem getD_set {cs : List Int} {k m : Nat} {v : Int} (h : k < cs.length) : (cs.set k v).getD m 0 = if m = k then v else cs.getD m 0 := by
  simp only [List.getD_eq_getElem?_getD, List.getElem?_set]
  by_cases e : m = k
  · subst e
    simp [h]
  · rw [if_neg (fun h => e h.symm), if_neg e]
theorem innerC {a b n l k : Int} {i : Nat} {cs : List Int} (v : V a b n l i cs) (hk : k = 2 * l + (i : Int) * l) (l0 : 1 ≤ l) (kn : k ≤ n) (len : (cs.length : Int) = n + 1) :
    ((cs.set k.toNat (cs.getD k.toNat 0 - cs.getD l.toNat 0)).length : Int) = n + 1 ∧ V a b n l (i + 1) (cs.set k.toNat (cs.getD k.toNat 0 - cs.getD l.toNat 0)) := by
  have e : ((cs.set k.toNat (cs.getD k.toNat 0 - cs.getD l.toNat 0)).length : Int) = n + 1 := by
    rw [List.length_set]
    exact len
  obtain ⟨_, n0, _, ln, is⟩ := v
  refine ⟨e, e, n0, l0, ln, fun m hm => ?_⟩
  have ek : k.toNat = (2 + i) * l.toNat := by
    obtain ⟨L, rfl⟩ := Int.eq_ofNat_of_zero_le (show 0 ≤ l by omega)
    rw [Int.toNat_natCast, Nat.add_mul]
    have : ((i * L : Nat) : Int) = (i : Int) * (L : Int) := Int.natCast_mul i L
    omega
  have kl : 2 * l.toNat ≤ k.toNat := by
    rw [ek, Nat.add_mul]
    omega
  rw [getD_set (by omega)]
  generalize hL : l.toNat = L at *
  have L0 : 0 < L := by omega
  by_cases c : m = k.toNat
  · rw [if_pos c, is k.toNat (by omega), is L (by omega)]
    have s1 : cnt a.toNat b.toNat k.toNat (fun d => decide (L < d) || (d == k.toNat || (d == L && decide ((2 + i) * L ≤ k.toNat)))) =
        cnt a.toNat b.toNat k.toNat (fun d => decide (L < d) || (d == k.toNat || (d == L && decide ((2 + (i + 1)) * L ≤ k.toNat)))) + cnt a.toNat b.toNat k.toNat (fun d => d == L) := by
      refine cn_split fun x _ => ?_
      have no : ¬ (2 + (i + 1)) * L ≤ k.toNat := by
        rw [ek, show 2 + (i + 1) = (2 + i) + 1 by omega, Nat.add_mul (2 + i) 1 L]
        omega
      simp only [pick_iff, Bool.or_eq_true, Bool.and_eq_true, decide_eq_true_eq, beq_iff_eq]
      generalize k.toNat / Nat.gcd x k.toNat = d at *
      refine ⟨⟨fun h => ?_, fun h => ?_⟩, fun h => ?_⟩
      · obtain ⟨h1, h2, h3⟩ := h
        rcases h3 with h3 | h3 | h3
        · exact Or.inl ⟨h1, h2, Or.inl h3⟩
        · exact Or.inl ⟨h1, h2, Or.inr (Or.inl h3)⟩
        · exact Or.inr ⟨h1, h2, h3.1⟩
      · rcases h with ⟨h1, h2, h3⟩ | ⟨h1, h2, h3⟩
        · refine ⟨h1, h2, ?_⟩
          rcases h3 with h3 | h3 | h3
          · exact Or.inl h3
          · exact Or.inr (Or.inl h3)
          · exact absurd h3.2 no
        · exact ⟨h1, h2, Or.inr (Or.inr ⟨h3, by omega⟩)⟩
      · obtain ⟨⟨_, _, h3⟩, _, _, h4⟩ := h
        rcases h3 with h3 | h3 | h3
        · omega
        · omega
        · exact no h3.2
    have s2 : cnt a.toNat b.toNat L (fun d => decide (L < d) || (d == L || (d == L && decide ((2 + i) * L ≤ L)))) = cnt a.toNat b.toNat L (fun d => d == L) := by
      refine cnt_congr fun d g d0 g0 e => ?_
      have le : d ≤ L := by
        rw [← e]
        exact Nat.le_mul_of_pos_right d g0
      apply Bool.eq_iff_iff.mpr
      simp only [Bool.or_eq_true, Bool.and_eq_true, decide_eq_true_eq, beq_iff_eq]
      omega
    have s3 : cnt a.toNat b.toNat k.toNat (fun d => d == L) = cnt a.toNat b.toNat L (fun d => d == L) := by
      rw [ek]
      exact cnt_mul (by omega) L0
    rw [s2, s1, s3, c]
    omega
  · rw [if_neg c, is m hm]
    congr 1
    refine cnt_congr fun d g d0 g0 dg => ?_
    apply Bool.eq_iff_iff.mpr
    simp only [Bool.or_eq_true, Bool.and_eq_true, decide_eq_true_eq, beq_iff_eq]
    refine ⟨fun h => ?_, fun h => ?_⟩
    · rcases h with h | h | h
      · exact Or.inl h
      · exact Or.inr (Or.inl h)
      · refine Or.inr (Or.inr ⟨h.1, ?_⟩)
        have e1 := h.1
        subst e1
        have g2 : 2 + i ≤ g := by
          have h2 := h.2
          rw [← dg, Nat.mul_comm d g] at h2
          exact Nat.le_of_mul_le_mul_right h2 d0
        have g3 : g ≠ 2 + i := fun q => c (by rw [ek, ← dg, q, Nat.mul_comm])
        rw [← dg, Nat.mul_comm d g]
        exact Nat.mul_le_mul_right d (by omega)
    · rcases h with h | h | h
      · exact Or.inl h
      · exact Or.inr (Or.inl h)
      · refine Or.inr (Or.inr ⟨h.1, Nat.le_trans (Nat.mul_le_mul_right L (by omega)) h.2⟩)
theorem getD_ext {xs ys : List Int} (e : xs.length = ys.length) (h : ∀ m, m < xs.length → xs.getD m 0 = ys.getD m 0) : xs = ys := by
  apply List.ext_getElem e
  intro m h1 h2
  have := h m h1
  simpa [List.getD_eq_getElem?_getD, List.getElem?_eq_getElem h1, List.getElem?_eq_getElem h2] using this
def total (f : Nat → Nat) : Nat → Nat
  | 0 => 0
  | n + 1 => total f n + f n
theorem sum_total (f : Nat → Nat) : ∀ n, ((List.range n).map (fun m => ((f m : Nat) : Int))).sum = ((total f n : Nat) : Int)
  | 0 => rfl
  | n + 1 => by
    rw [List.range_succ, List.map_append, List.sum_append, sum_total f n]
    simp [total]
theorem outer_total (a b : Nat) : ∀ n : Nat, outer a b n = total (fun m => if m = 0 then 0 else inner a b m (m + 1)) (n + 1)
  | 0 => rfl
  | n + 1 => by
    rw [outer_succ, outer_total a b n]
    show _ = total _ (n + 1) + (if n + 1 = 0 then 0 else inner a b (n + 1) (n + 1 + 1))
    rw [if_neg (by omega)]
theorem total_one {f g : Nat → Nat} (h : ∀ m, f m = g m + (if m = 1 then 1 else 0)) : ∀ n : Nat, total f (n + 2) = 1 + total g (n + 2)
  | 0 => by
    have h0 := h 0
    have h1 := h 1
    simp only [total]
    simp at h0 h1
    omega
  | n + 1 => by
    show total f (n + 2) + f (n + 2) = 1 + (total g (n + 2) + g (n + 2))
    rw [total_one h n, h (n + 2), if_neg (by omega)]
    omega
theorem whole {a b n : Int} {j : Nat} {cs : List Int} (w : W a b n j cs) (hj : (j : Int) = n) : [1 + cs.sum] = PyRb40.rank n a b := by
  obtain ⟨len, n0, is⟩ := w
  have eq : cs = (List.range (n.toNat + 1)).map (fun m => ((cnt a.toNat b.toNat m (fun d => d == m) : Nat) : Int)) := by
    have l2 : cs.length = ((List.range (n.toNat + 1)).map (fun m => ((cnt a.toNat b.toNat m (fun d => d == m) : Nat) : Int))).length := by
      rw [List.length_map, List.length_range]
      omega
    refine getD_ext l2 fun m hm => ?_
    rw [is m (by omega)]
    have lt : m < n.toNat + 1 := by omega
    have r : ((List.range (n.toNat + 1)).map (fun m => ((cnt a.toNat b.toNat m (fun d => d == m) : Nat) : Int))).getD m 0 = ((cnt a.toNat b.toNat m (fun d => d == m) : Nat) : Int) := by
      simp [List.getD_eq_getElem?_getD, List.getElem?_range lt]
    rw [r]
    congr 1
    refine cnt_congr fun d g d0 g0 e => ?_
    have le : d ≤ m := by
      rw [← e]
      exact Nat.le_mul_of_pos_right d g0
    apply Bool.eq_iff_iff.mpr
    simp only [Bool.or_eq_true, decide_eq_true_eq, beq_iff_eq]
    omega
  rw [due, eq, sum_total, outer_total]
  obtain ⟨N, hN⟩ : ∃ N, n.toNat = N + 1 := ⟨n.toNat - 1, by omega⟩
  rw [hN]
  have t := total_one (f := fun m => if m = 0 then 0 else inner a.toNat b.toNat m (m + 1)) (g := fun m => cnt a.toNat b.toNat m (fun d => d == m)) (fun m => by
    rcases Nat.eq_zero_or_pos m with rfl | m0
    · show (if 0 = 0 then 0 else _) = _
      rw [if_pos rfl, cnt_zero]
      rfl
    · show (if m = 0 then 0 else _) = _
      rw [if_neg (by omega), cnt_own m0]) N
  rw [show N + 1 + 1 = N + 2 from rfl, t]
  congr 1
theorem start {a b n : Int} {cs : List Int} (n0 : 1 ≤ n) (a0 : 0 ≤ a) (b0 : 1 ≤ b) (ab : a ≤ b) (len : (cs.length : Int) = n + 1) (is : ∀ m : Nat, m ≤ n.toNat → cs.getD m 0 = (a * (m : Int)).fdiv b) : W a b n 0 cs := by
  refine ⟨len, n0, fun m hm => ?_⟩
  rw [is m hm, cnt_all (by omega) (by omega)]
  obtain ⟨a, rfl⟩ := Int.eq_ofNat_of_zero_le a0
  obtain ⟨b, rfl⟩ := Int.eq_ofNat_of_zero_le (show 0 ≤ b by omega)
  rw [Int.fdiv_eq_ediv_of_nonneg _ (by omega)]
  simp
end S05

namespace Req
theorem same1 {x : Int} {k : List Int} (h : [x] = k) : same (ofPy (PyData.list [PyData.int x])) (WData.list (k.map WData.int)) = true := same_list h
end Req
namespace S05
open PySem PySem.W PyProof.Rows
theorem row_at {f : Int → Int} {K m : Nat} (h : m < K) : ((rangeKs 0 K).map f).getD m 0 = f (m : Int) := by
  simp [rangeKs, List.getD_eq_getElem?_getD, List.getElem?_range h]
theorem startC {a b n : Int} (n0 : 1 ≤ n) (a0 : 0 ≤ a) (b0 : 1 ≤ b) (ab : a ≤ b) : (((rangeKs 0 (n + 1 - 0).toNat).map (fun k' => (a * k').fdiv b)).length : Int) = n + 1 ∧ W a b n ([] : List Int).length ((rangeKs 0 (n + 1 - 0).toNat).map (fun k' => (a * k').fdiv b)) := by
  have e : (((rangeKs 0 (n + 1 - 0).toNat).map (fun k' => (a * k').fdiv b)).length : Int) = n + 1 := by
    rw [List.length_map, rangeKs_length]
    omega
  exact ⟨e, start n0 a0 b0 ab e fun m hm => row_at (by omega)⟩
theorem asked_le {n a b : Int} (h : PyRb40.rank_asked n a b = true) : a ≤ b := by
  have e : PyRb40.rank_asked n a b = ((Rb40Neutral.asked1 [[4, n, a, b]] && true) && true) := rfl
  rw [e] at h
  have e1 : Rb40Neutral.asked1 [[4, n, a, b]] = (Rb40Neutral.between n 1 200 && (Rb40Neutral.between b 1 5000 && Rb40Neutral.between a 0 b)) := rfl
  rw [e1] at h
  unfold Rb40Neutral.between at h
  simp only [Bool.and_eq_true, decide_eq_true_eq] at h
  omega
abbrev numLe {k lo : Int} (_ : lo ≤ k) : Int := k
section
open PySem PySem.W PySem.Calls PyProof.Rows PyProof.V PySem.Spec
variable {prog : Program} {w : World} {A : Around} {E : Value → Shared → Prop} {s : Shared} {env : Env} {h₀ : Heap} {x : Str} {body : List Stmt} {Q : Flow → Shared → Prop}
/-- What turns in a loop by steps: one list of whole numbers. -/
abbrev Cell := List Value × List Int × Nat
/-- **A loop over a range by steps of any size**, in which one list turns. -/
theorem steps {r l : Addr} {lo hi c : Int} {t1 t2 t3 : Tok} {n : Nat} {m : Str → Option Value} {vs : List Value} {xs : List Int} {ver : Nat} {rest : List (Addr × Obj)} (P : Nat → List Int → Prop)
    (quiet : A.handled = none)
    (rg : IsRange s.heap r lo hi c t1 t2 t3)
    (sm : Builtin.Range.small lo hi c = true)
    (sz : Builtin.Range.rangeSize lo hi c = (n : Int))
    (F : Fr h₀ env.locals s.heap m)
    (N : News h₀ env.locals s.heap ((l, listOf vs.toArray ver) :: rest))
    (areInts : IntsAre vs xs)
    (p0 : P 0 xs)
    (turn : ∀ (cell : Cell) (i : Nat) (k : Int) (t : Tok) (h : Heap) (tk : Nat) (own : List (Addr × Obj)),
      k = lo + (i : Int) * c → i < n → OwnOff own (l :: rest.map (·.1)) → IntsAre cell.1 cell.2.1 → P i cell.2.1 →
      Fr h₀ env.locals h (fun y => if y = x then some (.int k t) else m y) →
      News h₀ env.locals h ((l, listOf cell.1.toArray cell.2.2) :: (rest ++ own)) →
      wpAny (model prog w) A (execs body env)
        (InvPostN h₀ env.locals (KstS (σ := Cell) (fun d => (l, listOf d.1.toArray d.2.2) :: rest) (fun _ => []) (fun d => IntsAre d.1 d.2.1) x [] m (fun _ d => P (i + 1) d.2.1) [])
          own (l :: rest.map (·.1)) { s with heap := h, toks := tk } Q) E { s with heap := h, toks := tk })
    (done : ∀ (cell : Cell) (u : Str → Option Value) (h : Heap) (tk : Nat), IntsAre cell.1 cell.2.1 → P n cell.2.1 →
      Fr h₀ env.locals h (fun y => if y = x then u y else m y) →
      News h₀ env.locals h ((l, listOf cell.1.toArray cell.2.2) :: rest) → Q .next { s with heap := h, toks := tk }) :
    wpAny (model prog w) A (pyIter (.ref r)) (fun it s2 => LoopAtV prog w A h₀ env x body Q E it s2) E s := by
  refine wpAny_pyIter_range rg sm ?_
  have fresh : ∀ p ∈ ((l, listOf vs.toArray ver) :: rest), p.1 ∉ [s.heap.objs.size] := by
    intro p there same
    have lt := Heap.lt_size (N p there).1
    rw [List.mem_singleton.mp same] at lt
    exact Nat.lt_irrefl _ lt
  have go := (Walks.range (prog := prog) (w := w) quiet s.heap.objs.size lo c n).bound
  have frame : ∀ {u : Str → Option Value}, (∀ z, z ≠ x → (∀ p ∈ ([] : List (Str × Value)), z ≠ p.1) → ([] : List Str).contains z = false → u z = m z) → ∀ y, y ≠ x → u y = m y :=
    fun keep y ne => keep y ne (fun _ h => nomatch h) rfl
  refine loop_invN (fun i => KstS (σ := Cell) (fun d => (l, listOf d.1.toArray d.2.2) :: rest) (fun _ => []) (fun d => IntsAre d.1 d.2.1) x [] m (fun _ d => P i d.2.1) []) go ?_ ?_ fresh fresh ?_ (F.push _) ?_ ?_ ?_ ?_
  · intro same
    have lt := F.ns.lt
    rw [List.mem_singleton.mp same] at lt
    exact Nat.lt_irrefl _ lt
  · intro b same
    rw [List.mem_singleton.mp same]
    exact next_is_new F
  · show IsRangeIter _ _ _ _ _
    rw [sz]
    simpa using Heap.get?_push_size _ rfl
  · exact fun p there => ⟨Heap.get?_push_of_some _ (N p there).1, (N p there).2⟩
  · exact ⟨(vs, xs, ver), rfl, areInts, List.forall_mem_nil _, fun _ _ _ _ => rfl, p0⟩
  · rintro i v u nx h tk own lt ⟨_, t, rfl⟩ _ off ⟨cell, rfl, ia, _, keep, pi⟩ F1 N1
    have eq : (fun y => if y = x then some (Value.int (lo + (i : Int) * c) t) else u y) = fun y => if y = x then some (Value.int (lo + (i : Int) * c) t) else m y := by
      funext y
      by_cases e : y = x
      · rw [if_pos e, if_pos e]
      · rw [if_neg e, if_neg e, frame keep y e]
    rw [eq] at F1
    exact turn cell i _ t h tk own rfl lt off ia pi F1 N1
  · rintro u nx h tk ⟨cell, rfl, ia, _, keep, pi⟩ F1 N1
    have eq : u = fun y => if y = x then u y else m y := by
      funext y
      by_cases e : y = x
      · rw [if_pos e]
      · rw [if_neg e, frame keep y e]
    rw [eq] at F1
    exact done cell u h tk ia pi F1 N1
/-- The end of such a turn. -/
theorem ends {l L : Addr} {h h2 : Heap} {tk tk2 : Nat} {m u : Str → Option Value} {vs : List Value} {xs : List Int} {ver : Nat} {rest own : List (Addr × Obj)} {P : List Int → Prop}
    (F : Fr h₀ L h2 u) (N : News h₀ L h2 ((l, listOf vs.toArray ver) :: (rest ++ own))) (ia : IntsAre vs xs) (keep : ∀ z, z ≠ x → u z = m z) (p : P xs) :
    InvEndN h₀ L (KstS (σ := Cell) (fun d => (l, listOf d.1.toArray d.2.2) :: rest) (fun _ => []) (fun d => IntsAre d.1 d.2.1) x [] m (fun _ d => P d.2.1) [])
      own (l :: rest.map (·.1)) { s with heap := h, toks := tk } { s with heap := h2, toks := tk2 } := by
  refine ⟨h2, tk2, u, _, (l, listOf vs.toArray ver) :: rest, rfl, F, N, fun q there => ?_, fun q there => ?_, rfl, (vs, xs, ver), rfl, ia, List.forall_mem_nil _, fun z ne _ _ => keep z ne, p⟩
  · rcases List.mem_cons.mp there with e | e
    · rw [e]
      exact List.mem_cons_self ..
    · exact List.mem_cons_of_mem _ (List.mem_append_left _ e)
  · exact List.mem_cons_of_mem _ (List.mem_append_right _ there)
/-- The number of turns. -/
theorem size_nat {lo hi c : Int} (c0 : 0 < c) : Builtin.Range.rangeSize lo hi c = ((Builtin.Range.rangeSize lo hi c).toNat : Int) := by
  unfold Builtin.Range.rangeSize
  rw [if_pos (show c > 0 from c0)]
  by_cases h : lo < hi
  · rw [if_pos h]
    have := Int.ediv_nonneg (show 0 ≤ hi - lo - 1 by omega) (show 0 ≤ c by omega)
    omega
  · rw [if_neg h]
    rfl
theorem size_in {lo hi c : Int} {i : Nat} (c0 : 0 < c) (lt : i < (Builtin.Range.rangeSize lo hi c).toNat) : lo + (i : Int) * c < hi := by
  unfold Builtin.Range.rangeSize at lt
  rw [if_pos (show c > 0 from c0)] at lt
  by_cases h : lo < hi
  · rw [if_pos h] at lt
    have q := Int.ediv_mul_le (hi - lo - 1) (show c ≠ 0 by omega)
    have m : (i : Int) * c ≤ (hi - lo - 1) / c * c := Int.mul_le_mul_of_nonneg_right (by omega) (by omega)
    omega
  · rw [if_neg h] at lt
    simp at lt
theorem size_out {lo hi c : Int} (c0 : 0 < c) : hi ≤ lo + ((Builtin.Range.rangeSize lo hi c).toNat : Int) * c := by
  rw [← size_nat c0]
  unfold Builtin.Range.rangeSize
  rw [if_pos (show c > 0 from c0)]
  by_cases h : lo < hi
  · rw [if_pos h]
    have q := Int.lt_ediv_add_one_mul_self (hi - lo - 1) c0
    omega
  · rw [if_neg h]
    omega
theorem size_le {lo hi c : Int} (c0 : 0 < c) : Builtin.Range.rangeSize lo hi c = 0 ∨ (0 ≤ Builtin.Range.rangeSize lo hi c ∧ Builtin.Range.rangeSize lo hi c ≤ hi - lo) := by
  unfold Builtin.Range.rangeSize
  rw [if_pos (show c > 0 from c0)]
  by_cases h : lo < hi
  · rw [if_pos h]
    have p := Int.ediv_nonneg (show 0 ≤ hi - lo - 1 by omega) (show 0 ≤ c by omega)
    have q := Int.ediv_le_self c (show 0 ≤ hi - lo - 1 by omega)
    omega
  · rw [if_neg h]
    exact Or.inl rfl
theorem small_up {lo hi c : Int} (c0 : 0 < c) (c1 : c ≤ 1000) (lo0 : 0 ≤ lo) (lo1 : lo ≤ 1000) (hi0 : 0 ≤ hi) (hi1 : hi ≤ 1000) : Builtin.Range.small lo hi c = true := by
  have z := size_le (lo := lo) (hi := hi) c0
  have z1 : 0 ≤ Builtin.Range.rangeSize lo hi c ∧ Builtin.Range.rangeSize lo hi c ≤ 1000 := by omega
  unfold Builtin.Range.small Builtin.Range.rangeFitsLong
  rw [if_pos (show c > 0 from c0)]
  simp only [Bool.and_eq_true, Bool.or_eq_true, decide_eq_true_eq]
  refine ⟨⟨⟨⟨?_, ?_⟩, ?_⟩, ?_⟩, Or.inr ?_⟩ <;> omega
end
theorem low {l : Int} {i : Nat} (l0 : 1 ≤ l) : 2 * l ≤ 2 * l + (i : Int) * l := by
  have := Int.mul_nonneg (show (0 : Int) ≤ i by omega) (show 0 ≤ l by omega)
  omega
section
open PySem PySem.W PySem.Calls PyProof.Rows PyProof.V PySem.Spec
variable {s : Shared} {h₀ : Heap} {x : Str}
theorem endsV {a b n k : Int} {i : Nat} {l L : Addr} {h h2 : Heap} {tk tk2 : Nat} {m u : Str → Option Value} {vs : List Value} {xs : List Int} {ver : Nat} {rest own : List (Addr × Obj)}
    (F : Fr h₀ L h2 u) (N : News h₀ L h2 ((l, listOf vs.toArray ver) :: (rest ++ own))) (ia : IntsAre vs xs) (keep : ∀ z, z ≠ x → u z = m z) (p : (xs.length : Int) = n + 1 ∧ S05.V a b n k i xs) :
    InvEndN h₀ L (KstS (σ := Cell) (fun d => (l, listOf d.1.toArray d.2.2) :: rest) (fun _ => []) (fun d => IntsAre d.1 d.2.1) x [] m (fun _ d => (d.2.1.length : Int) = n + 1 ∧ S05.V a b n k i d.2.1) [])
      own (l :: rest.map (·.1)) { s with heap := h, toks := tk } { s with heap := h2, toks := tk2 } :=
  ends (P := fun xs => (xs.length : Int) = n + 1 ∧ S05.V a b n k i xs) F N ia keep p
end
section
open PySem PySem.W PySem.Calls PyProof.Rows
variable {prog : Program} {w : World} {A : Around} {E : Value → Shared → Prop} {s : Shared} {x y : Int} {t u : Tok} {Q : Value → Shared → Prop}
theorem step_div (hy : 0 < y) (hs : y ≤ 100000) (h : Q (.int (Int.fdiv x y) s.toks) { s with toks := s.toks + 1 }) :
    wpAny (model prog w) A (binaryOp .FloorDiv (.int x t) (.int y u)) Q E s :=
  PyProof.Rows.floordiv_int (by omega) h (Or.inl (PyProof.noPylong_small (by omega)))
theorem step_mul (lo : -100000 ≤ x) (hi : x ≤ 100000) (h : Q (.int (x * y) s.toks) { s with toks := s.toks + 1 }) :
    wpAny (model prog w) A (binaryOp .Mult (.int x t) (.int y u)) Q E s :=
  PyProof.Rows.mul_int h (PySem.IntMulOk.of_left (PySem.intBits_le_64 (by omega) (by omega)))
end
end S05
open PySem PySem.W PyProof.Rows
local macro_rules | `(tactic| walk_at "binaryOp FloorDiv int int") => `(tactic| (k_here; (with_reducible refine' S05.step_div ?k1 ?k2 ?_); (case k1 => k_dflt omega); (case k2 => k_dflt omega); (try dsimp only)))
local macro_rules | `(tactic| walk_at "binaryOp Mult int int") => `(tactic| (k_here; (with_reducible refine' S05.step_mul ?k1 ?k2 ?_); (case k1 => k_dflt omega); (case k2 => k_dflt omega); (try dsimp only)))
local macro_rules | `(tactic| walk_at "InvEndN") => `(tactic| (k_here; ((rename Fr _ _ _ _ => lF'); (rename News _ _ _ _ => lN'); (refine' S05.endsV ?f ?n ?i ?k ?p); (case f => exact lF'); (case n => exact lN'); (case i => assumption); (case k => exact fun z hz => if_neg hz); (case p => exact S05.innerC (by assumption) (by assumption) (by omega) (by omega) (by assumption)))))
set_option linter.unusedVariables false
set_option maxRecDepth 100000 in
set_option maxHeartbeats 8000000 in
theorem PySem.Challenge.cw_turnstree_s05_rank_holds : PySem.Challenge.rw_turnstree_s05_rank.Holds := by
  k_with "state" => first
    | exact S05.startC (by omega) (by omega) (by omega) (by omega)
    | exact S05.innerC (by assumption) (by assumption) (by omega) (by omega) (by assumption)
    | exact S05.leave (by assumption) (by assumption) (by assumption) (by assumption)
  k_with "pyIter ref" => first
    | (k_of "lower_number" => k_state (fun pre cs => (cs.length : Int) = iN + 1 ∧ S05.W iA iB iN pre.length cs) "counts")
    | (k_of "multiple" => ((
        (with_reducible show wpAny _ _ (pyIter (Value.ref _)) (fun it s₂ => LoopAtV _ _ _ _ _ _ _ _ _ it s₂) _ _)
        (rename Fr _ _ _ _ => lF')
        (rename News _ _ _ _ => lN')
        (rename IsRange _ _ _ _ _ _ _ _ => rgX)
        (have kOut := S05.size_out (lo := 2 * kN) (hi := iN + 1) (c := kN) (by omega))
        (with_unfolding_all refine' S05.steps (fun i xs => (xs.length : Int) = iN + 1 ∧ S05.V iA iB iN kN i xs) (by rfl) rgX (S05.small_up (by omega) (by omega) (by omega) (by omega) (by omega) (by omega)) (S05.size_nat (by omega)) lF' lN' (by assumption) ?kp ?_ ?_)
        (case kp => exact S05.enter (by assumption) (by assumption) (by omega))
        (all_goals (try clear lF' lN'))
        (all_goals first
          | ((intro zC zi zk zt zh zTk zOwn zEq zLt zOff zFacts zInv zFr zNews)
             (obtain ⟨zvs, zxs, zver⟩ := zC)
             (dsimp only at zFacts zInv zNews)
             (obtain ⟨zLen, zV⟩ := zInv)
             (simp only [List.nil_append, List.cons_append, List.append_nil] at zNews)
             (simp only [List.map_cons, List.map_nil] at zOff)
             (have zIn := S05.size_in (by omega) zLt)
             (have zLo := S05.low (l := kN) (i := zi) (by omega))
             (have zK := zFacts.length))
          | ((intro zC zu zh zTk zFacts zInv zFr zNews)
             (obtain ⟨zvs, zxs, zver⟩ := zC)
             (dsimp only at zFacts zInv zNews)
             (obtain ⟨zLen, zV⟩ := zInv)
             (have zK := zFacts.length)))
        (all_goals (try k_fold)))))
  open_ks0 with [.int 1, .int 0, .int 1]
  have noInts : IntsAre ([] : List Value) ([] : List Int) := IntsAre.nil
  with_reducible rename OpenSpec.pre _ _ = true => osPre
  obtain ⟨h1, h2⟩ := Req.dec_cons (os_pre_isSome osPre)
  obtain ⟨h2, h3⟩ := Req.dec_cons h2
  obtain ⟨e1, lo1, hi1⟩ := Req.dec_int h1
  obtain ⟨e2, lo2, hi2⟩ := Req.dec_int h2
  obtain ⟨e3, lo3, hi3⟩ := Req.dec_int h3
  have lo1 : (1 : Int) ≤ _ := lo1
  have hi1 : _ ≤ (200 : Int) := hi1
  have lo2 : (0 : Int) ≤ _ := lo2
  have hi2 : _ ≤ (5000 : Int) := hi2
  have lo3 : (1 : Int) ≤ _ := lo3
  have hi3 : _ ≤ (5000 : Int) := hi3
  obtain ⟨iN, hN⟩ : ∃ v : Int, v = S05.numLe lo1 := ⟨_, rfl⟩
  obtain ⟨iA, hA⟩ : ∃ v : Int, v = S05.numLe lo2 := ⟨_, rfl⟩
  obtain ⟨iB, hB⟩ : ∃ v : Int, v = S05.numLe lo3 := ⟨_, rfl⟩
  dsimp only [S05.numLe] at hN hA hB
  have osAb := S05.asked_le (os_pre_asked osPre (Req.dec_join e1 (Req.dec_join e2 e3)))
  dsimp only at osAb
  subst hN hA hB
  ks_steps
  refine os_post (Req.dec_join e1 (Req.dec_join e2 e3)) ?_
  refine Req.same1 ?_
  have fin : [1 + _] = PyRb40.rank _ _ _ := S05.whole (by assumption) (by rw [rangeKs_length]; omega)
  exact fin
#print axioms PySem.Challenge.cw_turnstree_s05_rank_holds
