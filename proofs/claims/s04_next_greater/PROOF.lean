import PyProof.Rows.All
import KE.OsGo
import KE.OsMore
import PySem.Challenge.RW_turnstree_s04_next_greater
open PySem PySem.W
set_option Elab.async false
namespace Req
theorem dec_cons {c : Codec} {cs : List Codec} {d : WData} {ds : List WData} (h : (Codec.decAll (c :: cs) (d :: ds)).isSome = true) :
    (Codec.decAll [c] [d]).isSome = true ∧ (Codec.decAll cs ds).isSome = true := by
  have e : Codec.decAll (c :: cs) (d :: ds) = Codec.both Prod.mk (c.dec d) (Codec.decAll cs ds) := rfl
  have e1 : Codec.decAll [c] [d] = Codec.both Prod.mk (c.dec d) (some ()) := rfl
  rw [e] at h
  rw [e1]
  cases h1 : c.dec d with
  | none =>
    rw [h1] at h
    cases h
  | some a =>
    cases h2 : Codec.decAll cs ds with
    | none =>
      rw [h1, h2] at h
      cases h
    | some r => exact ⟨rfl, rfl⟩
theorem dec_join {c : Codec} {cs : List Codec} {d : WData} {ds : List WData} {a : c.denote} {r : Codec.denoteAll cs} (h1 : Codec.decAll [c] [d] = some (a, ())) (h2 : Codec.decAll cs ds = some r) :
    Codec.decAll (c :: cs) (d :: ds) = some (a, r) := by
  have e : Codec.decAll (c :: cs) (d :: ds) = Codec.both Prod.mk (c.dec d) (Codec.decAll cs ds) := rfl
  have e1 : Codec.decAll [c] [d] = Codec.both Prod.mk (c.dec d) (some ()) := rfl
  rw [e1] at h1
  rw [e, h2]
  cases h3 : c.dec d with
  | none =>
    rw [h3] at h1
    cases h1
  | some b =>
    rw [h3] at h1
    cases h1
    rfl
theorem dec_int {lo hi k : Int} (h : (Codec.decAll [.int lo hi] [WData.int k]).isSome = true) : Codec.decAll [.int lo hi] [WData.int k] = some (k, ()) ∧ lo ≤ k ∧ k ≤ hi := by
  have e : Codec.decAll [.int lo hi] [WData.int k] = Codec.both Prod.mk (if Codec.inInt lo hi k = true then some k else none) (some ()) := rfl
  rw [e] at h ⊢
  cases h1 : Codec.inInt lo hi k with
  | false =>
    rw [h1] at h
    cases h
  | true =>
    unfold Codec.inInt at h1
    simp only [Bool.and_eq_true, decide_eq_true_eq] at h1
    exact ⟨rfl, h1.1, h1.2⟩
theorem same_list {l k : List Int} (h : l = k) : same (WData.list (ofPys (l.map PyData.int))) (WData.list (k.map WData.int)) = true := by
  subst h
  rw [ofPys_ints]
  exact same_self _
end Req
namespace S04
open Rb40

def cand (a b v : Nat) : Nat := a * v / b + 1
/-- What the search has after the lower numbers 1 to k. -/
structure Best (a b k : Nat) (m : Option (Nat × Nat)) : Prop where
  no : m = none → ∀ v, 0 < v → v ≤ k → v < cand a b v
  yes : ∀ x y, m = Option.some (x, y) → 0 < y ∧ y ≤ k ∧ x = cand a b y ∧ x ≤ y ∧ ∀ v, 0 < v → v ≤ k → cand a b v ≤ v → x * v ≤ cand a b v * y ∧ (v < y → x * v < cand a b v * y)
theorem Best.start (a b : Nat) : Best a b 0 none := ⟨fun _ v h l => by omega, fun _ _ h => by cases h⟩
def turn (a b : Nat) (m : Option (Nat × Nat)) (k : Nat) : Option (Nat × Nat) :=
  let y := k + 1
  let x := a * y / b + 1
  if y < x then m else match m with
    | none => some (x, y)
    | some z => if x * z.2 < z.1 * y then some (x, y) else m
theorem cross {x y u v p q : Nat} (h1 : x * q ≤ p * y) (h2 : p * v < u * q) (y0 : 0 < y) : x * v < u * y := by
  -- x/y ≤ p/q < u/v
  have a1 : x * q * v ≤ p * y * v := Nat.mul_le_mul_right v h1
  have a2 : p * v * y < u * q * y := Nat.mul_lt_mul_of_pos_right h2 y0
  have e1 : p * y * v = p * v * y := by rw [Nat.mul_assoc, Nat.mul_comm y v, ← Nat.mul_assoc]
  have e2 : x * q * v = x * v * q := by rw [Nat.mul_assoc, Nat.mul_comm q v, ← Nat.mul_assoc]
  have e3 : u * q * y = u * y * q := by rw [Nat.mul_assoc, Nat.mul_comm q y, ← Nat.mul_assoc]
  rw [e2] at a1
  rw [e3] at a2
  exact Nat.lt_of_mul_lt_mul_right (a := q) (by omega)
theorem Best.turn {a b k : Nat} {m : Option (Nat × Nat)} (B : Best a b k m) : Best a b (k + 1) (turn a b m k) := by
  have ec : a * (k + 1) / b + 1 = cand a b (k + 1) := rfl
  unfold S04.turn
  dsimp only
  rw [ec]
  by_cases h : k + 1 < cand a b (k + 1)
  · rw [if_pos h]
    refine ⟨fun e v v0 l => ?_, fun x y e => ?_⟩
    · rcases (by omega : v = k + 1 ∨ v ≤ k) with rfl | l'
      · exact h
      · exact B.no e v v0 l'
    · obtain ⟨y0, yk, ex, xy, all⟩ := B.yes x y e
      refine ⟨y0, by omega, ex, xy, fun v v0 l hv => ?_⟩
      rcases (by omega : v = k + 1 ∨ v ≤ k) with rfl | l'
      · omega
      · exact all v v0 l' hv
  · rw [if_neg h]
    match m, B with
    | none, B =>
      refine ⟨fun e => (by cases e), fun x y e => ?_⟩
      cases e
      refine ⟨by omega, by omega, rfl, by omega, fun v v0 l hv => ?_⟩
      rcases (by omega : v = k + 1 ∨ v ≤ k) with rfl | l'
      · exact ⟨Nat.le_refl _, fun l => by omega⟩
      · have := B.no rfl v v0 l'
        omega
    | some (p, q), B =>
      obtain ⟨q0, qk, ep, pq, all⟩ := B.yes p q rfl
      dsimp only
      by_cases g : cand a b (k + 1) * q < p * (k + 1)
      · rw [if_pos g]
        refine ⟨fun e => (by cases e), fun x y e => ?_⟩
        cases e
        refine ⟨by omega, by omega, rfl, by omega, fun v v0 l hv => ?_⟩
        rcases (by omega : v = k + 1 ∨ v ≤ k) with rfl | l'
        · exact ⟨Nat.le_refl _, fun l => by omega⟩
        · have := (all v v0 l' hv).1
          -- cand(k+1)/(k+1) < p/q ≤ cand v / v
          have c : cand a b (k + 1) * v < cand a b v * (k + 1) := by
            have a1 : cand a b (k + 1) * q * v < p * (k + 1) * v := Nat.mul_lt_mul_of_pos_right g v0
            have a2 : p * v * (k + 1) ≤ cand a b v * q * (k + 1) := Nat.mul_le_mul_right _ this
            have e1 : p * (k + 1) * v = p * v * (k + 1) := by rw [Nat.mul_assoc, Nat.mul_comm (k + 1) v, ← Nat.mul_assoc]
            have e2 : cand a b (k + 1) * q * v = cand a b (k + 1) * v * q := by rw [Nat.mul_assoc, Nat.mul_comm q v, ← Nat.mul_assoc]
            have e3 : cand a b v * q * (k + 1) = cand a b v * (k + 1) * q := by rw [Nat.mul_assoc, Nat.mul_comm q (k + 1), ← Nat.mul_assoc]
            rw [e2] at a1
            rw [e3] at a2
            exact Nat.lt_of_mul_lt_mul_right (a := q) (by omega)
          exact ⟨by omega, fun _ => c⟩
      · rw [if_neg g]
        refine ⟨fun e => (by cases e), fun x y e => ?_⟩
        cases e
        refine ⟨q0, by omega, ep, pq, fun v v0 l hv => ?_⟩
        rcases (by omega : v = k + 1 ∨ v ≤ k) with rfl | l'
        · exact ⟨by omega, fun l => by omega⟩
        · exact all v v0 l' hv
theorem fold_best (a b : Nat) : ∀ n : Nat, Best a b n ((List.range n).foldl (turn a b) none)
  | 0 => Best.start a b
  | n + 1 => by
    rw [List.range_succ, List.foldl_append]
    exact (fold_best a b n).turn
theorem nextOf_best (n a b : Nat) : Best a b n (Rb40Neutral.nextOf n a b) := by
  have e : Rb40Neutral.nextOf n a b = (List.range n).foldl (turn a b) none := rfl
  rw [e]
  exact fold_best a b n
theorem cand_above {a b v : Nat} (b0 : 0 < b) : a * v < cand a b v * b := by
  have := Nat.lt_mul_div_succ (a * v) b0
  unfold cand
  rw [Nat.mul_comm (a * v / b + 1) b]
  exact this
theorem cand_least {a b u v : Nat} (b0 : 0 < b) (h : a * v < u * b) : cand a b v ≤ u := (Nat.div_lt_iff_lt_mul b0).mpr h
/-- Any fraction of such a lower number stands behind the next one. -/
theorem next_all {n a b x y u v : Nat} (N : Next n a b x y) (v0 : 0 < v) (vn : v ≤ n) (uv : u ≤ v) (h : a * v < u * b) : x * v ≤ u * y := by
  obtain ⟨_, _, all⟩ := N
  have g0 : 0 < Nat.gcd u v := Nat.gcd_pos_of_pos_right u v0
  obtain ⟨u', hu⟩ := Nat.gcd_dvd_left u v
  obtain ⟨v', hv⟩ := Nat.gcd_dvd_right u v
  generalize hg : Nat.gcd u v = g at *
  have hv' : 0 < v' := by
    rcases Nat.eq_zero_or_pos v' with e | e
    · rw [e] at hv; omega
    · exact e
  have cop : Nat.gcd u' v' = 1 := by
    have := Nat.gcd_mul_left g u' v'
    rw [← hu, ← hv, hg] at this
    exact Nat.eq_of_mul_eq_mul_left g0 (by omega)
  have le1 : u' ≤ v' := by
    rw [hu, hv] at uv
    exact Nat.le_of_mul_le_mul_left uv g0
  have le2 : v' ≤ n := Nat.le_trans (by rw [hv]; exact Nat.le_mul_of_pos_left v' g0) vn
  have ab : a * v' < u' * b := by
    have e1 : a * v = g * (a * v') := by rw [hv, ← Nat.mul_assoc, Nat.mul_comm a g, Nat.mul_assoc]
    have e2 : u * b = g * (u' * b) := by rw [hu, Nat.mul_assoc]
    rw [e1, e2] at h
    exact Nat.lt_of_mul_lt_mul_left h
  have := all u' v' ⟨⟨hv', cop⟩, le1, le2⟩ ab
  have e1 : x * v = g * (x * v') := by rw [hv, ← Nat.mul_assoc, Nat.mul_comm x g, Nat.mul_assoc]
  have e2 : u * y = g * (u' * y) := by rw [hu, Nat.mul_assoc]
  rw [e1, e2]
  exact Nat.mul_le_mul_left g this
/-- Two fractions alike, the one without a common part: the other's lower number is no less. -/
theorem lowest_le {x y p q : Nat} (q0 : 0 < q) (c : Nat.gcd x y = 1) (e : x * q = p * y) : y ≤ q := by
  have d : y ∣ x * q := ⟨p, by rw [e, Nat.mul_comm]⟩
  have : y ∣ q := Nat.Coprime.dvd_of_dvd_mul_left (by rw [Nat.Coprime, Nat.gcd_comm]; exact c) d
  exact Nat.le_of_dvd q0 this
theorem next_is {n a b x y : Nat} (b0 : 0 < b) (N : Next n a b x y) : Rb40Neutral.nextOf n a b = some (x, y) := by
  have B := nextOf_best n a b
  have N' := N
  obtain ⟨⟨⟨y0, cop⟩, xy, yn⟩, ab, all⟩ := N'
  have cy : cand a b y ≤ x := cand_least b0 ab
  have ex : cand a b y = x := by
    have := next_all N y0 yn (Nat.le_trans cy xy) (cand_above b0)
    have := Nat.le_of_mul_le_mul_right this y0
    omega
  cases e : Rb40Neutral.nextOf n a b with
  | none =>
    have := B.no e y y0 yn
    omega
  | some z =>
    obtain ⟨p, q⟩ := z
    obtain ⟨q0, qn, ep, pq, m⟩ := B.yes p q e
    have m1 := m y y0 yn (by omega)
    rw [ex] at m1
    have m2 : x * q ≤ p * y := next_all N q0 qn pq (by rw [ep]; exact cand_above b0)
    have eq : x * q = p * y := by omega
    have le := lowest_le q0 cop eq
    have hq : y = q := by
      rcases (by omega : y = q ∨ y < q) with h | h
      · exact h
      · have := m1.2 h
        omega
    subst hq
    have : x = p := Nat.eq_of_mul_eq_mul_right y0 eq
    rw [this]
theorem next_none {n a b : Nat} (b0 : 0 < b) (h : b ≤ a) : Rb40Neutral.nextOf n a b = none := by
  have B := nextOf_best n a b
  cases e : Rb40Neutral.nextOf n a b with
  | none => rfl
  | some z =>
    obtain ⟨p, q⟩ := z
    obtain ⟨q0, qn, ep, pq, m⟩ := B.yes p q e
    have := cand_above (a := a) (v := q) b0
    rw [← ep] at this
    have l1 : p * b ≤ q * b := Nat.mul_le_mul_right b pq
    have l2 : q * b ≤ q * a := Nat.mul_le_mul_left q h
    rw [Nat.mul_comm q a] at l2
    omega
/-- Neighbours. -/
theorem farey {n a b x y : Nat} (y0 : 0 < y) (xy : x ≤ y) (yn : y ≤ n) (ny : n < y + b) (e : x * b = a * y + 1) : Next n a b x y := by
  have cop : Nat.gcd x y = 1 := by
    have d1 : Nat.gcd x y ∣ x * b := Nat.dvd_trans (Nat.gcd_dvd_left x y) (Nat.dvd_mul_right x b)
    have d2 : Nat.gcd x y ∣ a * y := Nat.dvd_trans (Nat.gcd_dvd_right x y) (Nat.dvd_mul_left y a)
    rw [e] at d1
    have := (Nat.dvd_add_right d2).mp d1
    exact Nat.dvd_one.mp this
  refine ⟨⟨⟨y0, cop⟩, xy, yn⟩, by omega, fun u v S h => ?_⟩
  obtain ⟨⟨v0, _⟩, uv, vn⟩ := S
  rcases Nat.lt_or_ge (u * y) (x * v) with l | l
  · exfalso
    -- v = b (xv - uy) + y (ub - av)
    have i1 : b * (u * y) + b ≤ b * (x * v) := by
      have := Nat.mul_le_mul_left b (Nat.succ_le_of_lt l)
      rw [Nat.succ_eq_add_one, Nat.mul_add, Nat.mul_one] at this
      exact this
    have i2 : y * (a * v) + y ≤ y * (u * b) := by
      have := Nat.mul_le_mul_left y (Nat.succ_le_of_lt h)
      rw [Nat.succ_eq_add_one, Nat.mul_add, Nat.mul_one] at this
      exact this
    have e1 : b * (x * v) = y * (a * v) + v := by
      have : b * (x * v) = x * b * v := by rw [← Nat.mul_assoc, Nat.mul_comm b x]
      rw [this, e, Nat.add_mul, Nat.one_mul, Nat.mul_comm a y, Nat.mul_assoc]
    have e2 : y * (u * b) = b * (u * y) := by
      rw [Nat.mul_comm y, Nat.mul_assoc, Nat.mul_comm b y, ← Nat.mul_assoc, Nat.mul_comm (u * y) b]
    omega
  · exact l
/-- **What is due.** -/
theorem due {n a b : Int} {x y : Nat} (b0 : 0 < b) (N : Next n.toNat a.toNat b.toNat x y) : PyRb40.next_greater n a b = [0, (x : Int), (y : Int)] := by
  show (match Rb40Neutral.nextOf n.toNat a.toNat b.toNat with | some z => [0, (z.1 : Int), (z.2 : Int)] | none => [-1]) = _
  rw [next_is (by omega) N]
theorem due_none {n a b : Int} (b0 : 0 < b) (h : b ≤ a) : PyRb40.next_greater n a b = [-1] := by
  show (match Rb40Neutral.nextOf n.toNat a.toNat b.toNat with | some z => [0, (z.1 : Int), (z.2 : Int)] | none => [-1]) = _
  rw [next_none (by omega) (by omega)]
end S04

namespace Req
theorem same1 {x : Int} {k : List Int} (h : [x] = k) : same (ofPy (PyData.list [PyData.int x])) (WData.list (k.map WData.int)) = true := same_list h
theorem same3 {x y z : Int} {k : List Int} (h : [x, y, z] = k) : same (ofPy (PyData.list [PyData.int x, PyData.int y, PyData.int z])) (WData.list (k.map WData.int)) = true := same_list h
end Req
namespace S04
open Rb40
def la (a b l : Int) : Int := Int.fdiv (a * l) b + 1
theorem la_nat {a b l : Int} (a0 : 0 ≤ a) (b0 : 1 ≤ b) (l0 : 1 ≤ l) : la a b l = ((cand a.toNat b.toNat l.toNat : Nat) : Int) := by
  obtain ⟨a, rfl⟩ := Int.eq_ofNat_of_zero_le a0
  obtain ⟨b, rfl⟩ := Int.eq_ofNat_of_zero_le (show 0 ≤ b by omega)
  obtain ⟨l, rfl⟩ := Int.eq_ofNat_of_zero_le (show 0 ≤ l by omega)
  unfold la cand
  rw [Int.fdiv_eq_ediv_of_nonneg _ (by omega)]
  simp
/-- After the lower numbers up to j + 1. -/
structure Word (a b : Int) (j : Nat) (u l : Int) : Prop where
  u0 : 1 ≤ u
  ul : u ≤ l
  lj : l ≤ (j : Int) + 1
  eq : (List.range (j + 1)).foldl (turn a.toNat b.toNat) none = some (u.toNat, l.toNat)
theorem start {a b : Int} (a0 : 0 ≤ a) (ab : a < b) : Word a b 0 1 1 := by
  refine ⟨by omega, by omega, by omega, ?_⟩
  have e : a.toNat * 1 / b.toNat = 0 := Nat.div_eq_of_lt (by omega)
  show turn a.toNat b.toNat none 0 = _
  unfold turn
  dsimp only
  rw [show 0 + 1 = 1 from rfl, e]
  rfl
theorem one_more {a b : Int} {j : Nat} {u l : Int} (W : Word a b j u l) :
    (List.range (j + 1 + 1)).foldl (turn a.toNat b.toNat) none = turn a.toNat b.toNat (some (u.toNat, l.toNat)) (j + 1) := by
  rw [List.range_succ, List.foldl_append, W.eq]
  rfl
theorem prods {p q r s : Int} (p0 : 0 ≤ p) (q0 : 0 ≤ q) (r0 : 0 ≤ r) (s0 : 0 ≤ s) : (p.toNat * q.toNat < r.toNat * s.toNat) ↔ p * q < r * s := by
  obtain ⟨p, rfl⟩ := Int.eq_ofNat_of_zero_le p0
  obtain ⟨q, rfl⟩ := Int.eq_ofNat_of_zero_le q0
  obtain ⟨r, rfl⟩ := Int.eq_ofNat_of_zero_le r0
  obtain ⟨s, rfl⟩ := Int.eq_ofNat_of_zero_le s0
  simp only [Int.toNat_natCast]
  constructor
  · intro h
    exact_mod_cast h
  · intro h
    exact_mod_cast h
theorem yes {a b : Int} {j : Nat} {u l k : Int} (W : Word a b j u l) (hk : k = 2 + (j : Int)) (h : la a b k * l < u * k) (a0 : 0 ≤ a) (b0 : 1 ≤ b) : Word a b (j + 1) (la a b k) k := by
  have e := one_more W
  obtain ⟨u0, ul, lj, _⟩ := W
  have ec := la_nat a0 b0 (show 1 ≤ k by omega)
  have ek : k.toNat = j + 1 + 1 := by omega
  have pos : 1 ≤ la a b k := by
    rw [ec]
    unfold cand
    generalize a.toNat * k.toNat / b.toNat = q
    omega
  have le : la a b k ≤ k := by
    rcases (by omega : la a b k ≤ k ∨ k < la a b k) with h' | h'
    · exact h'
    · have h1 : k * l ≤ la a b k * l := Int.mul_le_mul_of_nonneg_right (by omega) (by omega)
      have h2 : u * k ≤ l * k := Int.mul_le_mul_of_nonneg_right ul (by omega)
      rw [Int.mul_comm l k] at h2
      omega
  refine ⟨pos, le, by omega, ?_⟩
  have h' := (prods (by omega) (by omega) (by omega) (by omega)).mpr h
  have et : (la a b k).toNat = cand a.toNat b.toNat k.toNat := by omega
  rw [et, ek] at h'
  have no : ¬ (j + 1 + 1 < cand a.toNat b.toNat (j + 1 + 1)) := by
    rw [← ek]
    omega
  rw [e, et, ek]
  unfold cand at *
  unfold turn
  dsimp only
  rw [if_neg no, if_pos h']
theorem no {a b : Int} {j : Nat} {u l k : Int} (W : Word a b j u l) (hk : k = 2 + (j : Int)) (h : u * k ≤ la a b k * l) (a0 : 0 ≤ a) (b0 : 1 ≤ b) : Word a b (j + 1) u l := by
  have e := one_more W
  obtain ⟨u0, ul, lj, _⟩ := W
  have ec := la_nat a0 b0 (show 1 ≤ k by omega)
  have ek : k.toNat = j + 1 + 1 := by omega
  refine ⟨u0, ul, by omega, ?_⟩
  have h' : ¬ (cand a.toNat b.toNat (j + 1 + 1) * l.toNat < u.toNat * (j + 1 + 1)) := fun g => by
    have et : (la a b k).toNat = cand a.toNat b.toNat k.toNat := by omega
    rw [← ek, ← et] at g
    have := (prods (p := la a b k) (by omega) (by omega) (by omega) (by omega)).mp g
    omega
  rw [e]
  unfold cand at *
  unfold turn
  dsimp only
  by_cases g : j + 1 + 1 < a.toNat * (j + 1 + 1) / b.toNat + 1
  · rw [if_pos g]
  · rw [if_neg g, if_neg h']
theorem wholeC {n a b : Int} {j : Nat} {u l : Int} (W : Word a b j u l) (hn : n = (j : Int) + 1) : [0, u, l] = PyRb40.next_greater n a b := by
  show _ = (match (List.range n.toNat).foldl (turn a.toNat b.toNat) none with | some z => [0, (z.1 : Int), (z.2 : Int)] | none => [-1])
  have := W.u0
  have := W.ul
  rw [show n.toNat = j + 1 by omega, W.eq]
  show [0, u, l] = [0, (u.toNat : Int), (l.toNat : Int)]
  rw [show (u.toNat : Int) = u by omega, show (l.toNat : Int) = l by omega]
theorem noneC {n a b : Int} (e : a = b) (b0 : 1 ≤ b) : [-1] = PyRb40.next_greater n a b := (due_none (by omega) (by omega)).symm
theorem asked_le {n a b : Int} (h : PyRb40.next_greater_asked n a b = true) : a ≤ b ∧ b ≤ n := by
  have e : PyRb40.next_greater_asked n a b = ((Rb40Neutral.asked1 [[3, n, a, b]] && true) && true) := rfl
  rw [e] at h
  have e1 : Rb40Neutral.asked1 [[3, n, a, b]] = (Rb40Neutral.between n 1 5000 && (Rb40Neutral.between b 1 n && (Rb40Neutral.between a 0 b && decide (Nat.gcd a.toNat b.toNat = 1)))) := rfl
  rw [e1] at h
  unfold Rb40Neutral.between at h
  simp only [Bool.and_eq_true, decide_eq_true_eq] at h
  omega
section
open PySem.Calls PyProof.Rows
variable {prog : Program} {w : World} {A : Around} {E : Value → Shared → Prop} {s : Shared} {x y : Int} {t u : Tok} {Q : Value → Shared → Prop}
theorem step_div (hy : 0 < y) (hs : y ≤ 100000) (h : Q (.int (Int.fdiv x y) s.toks) { s with toks := s.toks + 1 }) :
    wpAny (model prog w) A (binaryOp .FloorDiv (.int x t) (.int y u)) Q E s :=
  PyProof.Rows.floordiv_int (by omega) h (Or.inl (PyProof.noPylong_small (by omega)))
theorem step_mul (lo : -100000 ≤ y) (hi : y ≤ 100000) (h : Q (.int (x * y) s.toks) { s with toks := s.toks + 1 }) :
    wpAny (model prog w) A (binaryOp .Mult (.int x t) (.int y u)) Q E s :=
  PyProof.Rows.mul_int h (PySem.IntMulOk.of_right (PySem.intBits_le_64 (by omega) (by omega)))
theorem bound {a b : Int} {j : Nat} {u l : Int} (W : Word a b j u l) : 1 ≤ l ∧ l ≤ (j : Int) + 1 := by
  obtain ⟨u0, ul, lj, _⟩ := W
  omega
theorem startC {a b : Int} (a0 : 0 ≤ a) (ab : a < b) : (1 : Int) ≤ 1 ∧ (1 : Int) ≤ (([] : List Int).length : Int) + 1 ∧ Word a b ([] : List Int).length 1 1 :=
  have W := start a0 ab
  ⟨(bound W).1, (bound W).2, W⟩
theorem yesC {a b : Int} {pre : List Int} {u l k v : Int} (W : Word a b pre.length u l) (hk : k = 2 + (pre.length : Int)) (h : la a b k * l < u * k) (a0 : 0 ≤ a) (b0 : 1 ≤ b) : 1 ≤ k ∧ k ≤ ((pre ++ [v]).length : Int) + 1 ∧ Word a b (pre ++ [v]).length (la a b k) k := by
  have W := yes W hk h a0 b0
  rw [List.length_append]
  exact ⟨(bound W).1, (bound W).2, W⟩
theorem noC {a b : Int} {pre : List Int} {u l k v : Int} (W : Word a b pre.length u l) (hk : k = 2 + (pre.length : Int)) (h : u * k ≤ la a b k * l) (a0 : 0 ≤ a) (b0 : 1 ≤ b) : 1 ≤ l ∧ l ≤ ((pre ++ [v]).length : Int) + 1 ∧ Word a b (pre ++ [v]).length u l := by
  have W := no W hk h a0 b0
  rw [List.length_append]
  exact ⟨(bound W).1, (bound W).2, W⟩
end
end S04
open PySem PySem.W PyProof.Rows
local macro_rules | `(tactic| walk_at "binaryOp FloorDiv int int") => `(tactic| (k_here; (with_reducible refine' S04.step_div ?k1 ?k2 ?_); (case k1 => k_dflt omega); (case k2 => k_dflt omega)))
local macro_rules | `(tactic| walk_at "binaryOp Mult int int") => `(tactic| (k_here; (with_reducible refine' S04.step_mul ?k1 ?k2 ?_); (case k1 => k_dflt omega); (case k2 => k_dflt omega)))
example : Int → Int → List Int → Int → Int → Prop := (fun a b pre u l => 1 ≤ l ∧ l ≤ (pre.length : Int) + 1 ∧ S04.Word a b pre.length u l)
set_option maxRecDepth 100000 in
set_option maxHeartbeats 8000000 in
theorem PySem.Challenge.cw_turnstree_s04_next_greater_holds : PySem.Challenge.rw_turnstree_s04_next_greater.Holds := by
  k_with "tree" => (unfold S04.la; rfl)
  k_with "call ref" => k_call_by "least_above" S04.la (fun (a b l : Int) => 0 ≤ a ∧ a ≤ 5000 ∧ 1 ≤ b ∧ b ≤ 5000 ∧ 1 ≤ l ∧ l ≤ 5000)
  k_with "state" => first
    | exact S04.startC (by omega) (by omega)
    | exact S04.yesC (by assumption) (by assumption) (by omega) (by omega) (by omega)
    | exact S04.noC (by assumption) (by assumption) (by omega) (by omega) (by omega)
  k_with "pyIter ref" => k_state_given ["a", "b"] (fun a b pre u l => 1 ≤ l ∧ l ≤ (pre.length : Int) + 1 ∧ S04.Word a b pre.length u l) "best_upper" "best_lower"
  open_ks0 with [.int 1, .int 0, .int 1]
  have noInts : IntsAre ([] : List Value) ([] : List Int) := IntsAre.nil
  with_reducible rename OpenSpec.pre _ _ = true => osPre
  obtain ⟨h1, h2⟩ := Req.dec_cons (os_pre_isSome osPre)
  obtain ⟨h2, h3⟩ := Req.dec_cons h2
  obtain ⟨e1, lo1, hi1⟩ := Req.dec_int h1
  obtain ⟨e2, lo2, hi2⟩ := Req.dec_int h2
  obtain ⟨e3, lo3, hi3⟩ := Req.dec_int h3
  have lo1 : (1 : Int) ≤ _ := lo1
  have hi1 : _ ≤ (5000 : Int) := hi1
  have lo2 : (0 : Int) ≤ _ := lo2
  have hi2 : _ ≤ (5000 : Int) := hi2
  have lo3 : (1 : Int) ≤ _ := lo3
  have hi3 : _ ≤ (5000 : Int) := hi3
  obtain ⟨osAb, osBn⟩ := S04.asked_le (os_pre_asked osPre (Req.dec_join e1 (Req.dec_join e2 e3)))
  dsimp only at osAb osBn
  ks_steps
  all_goals refine os_post (Req.dec_join e1 (Req.dec_join e2 e3)) ?_
  · refine Req.same1 ?_
    have fin : ∀ n, [-1] = PyRb40.next_greater n _ _ := fun n => S04.noneC (by assumption) (by omega)
    exact fin _
  · refine Req.same3 ?_
    exact S04.wholeC (by assumption) (by rw [rangeKs_length]; dsimp only; omega)
#print axioms PySem.Challenge.cw_turnstree_s04_next_greater_holds
