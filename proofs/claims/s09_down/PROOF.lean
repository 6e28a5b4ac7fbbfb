import PyProof.Rows.All
import KE.OsGo
import KE.OsMore
import PySem.Challenge.RW_turnstree_s09_down
open PySem PySem.W
set_option Elab.async false
namespace Req
theorem dec_cons {c : Codec} {cs : List Codec} {d : WData} {ds : List WData} (h : (Codec.decAll (c :: cs) (d :: ds)).isSome = true) :
    (Codec.decAll [c] [d]).isSome = true ∧ (Codec.decAll cs ds).isSome = true := by
  have e : Codec.decAll (c :: cs) (d :: ds) = Codec.both Prod.mk (c.dec d) (Codec.decAll cs ds) := rfl
  have e1 : Codec.decAll [c] [d] = Codec.both Prod.mk (c.dec d) (some ()) := rfl
  rw [e] at h
  rw [e1]
  cases h1 : c.dec d with
  | none =>
    rw [h1] at h
    cases h
  | some a =>
    cases h2 : Codec.decAll cs ds with
    | none =>
      rw [h1, h2] at h
      cases h
    | some r => exact ⟨rfl, rfl⟩
theorem dec_join {c : Codec} {cs : List Codec} {d : WData} {ds : List WData} {a : c.denote} {r : Codec.denoteAll cs} (h1 : Codec.decAll [c] [d] = some (a, ())) (h2 : Codec.decAll cs ds = some r) :
    Codec.decAll (c :: cs) (d :: ds) = some (a, r) := by
  have e : Codec.decAll (c :: cs) (d :: ds) = Codec.both Prod.mk (c.dec d) (Codec.decAll cs ds) := rfl
  have e1 : Codec.decAll [c] [d] = Codec.both Prod.mk (c.dec d) (some ()) := rfl
  rw [e1] at h1
  rw [e, h2]
  cases h3 : c.dec d with
  | none =>
    rw [h3] at h1
    cases h1
  | some b =>
    rw [h3] at h1
    cases h1
    rfl
theorem dec_int {lo hi k : Int} (h : (Codec.decAll [.int lo hi] [WData.int k]).isSome = true) : Codec.decAll [.int lo hi] [WData.int k] = some (k, ()) ∧ lo ≤ k ∧ k ≤ hi := by
  have e : Codec.decAll [.int lo hi] [WData.int k] = Codec.both Prod.mk (if Codec.inInt lo hi k = true then some k else none) (some ()) := rfl
  rw [e] at h ⊢
  cases h1 : Codec.inInt lo hi k with
  | false =>
    rw [h1] at h
    cases h
  | true =>
    unfold Codec.inInt at h1
    simp only [Bool.and_eq_true, decide_eq_true_eq] at h1
    exact ⟨rfl, h1.1, h1.2⟩
theorem same_list {l k : List Int} (h : l = k) : same (WData.list (ofPys (l.map PyData.int))) (WData.list (k.map WData.int)) = true := by
  subst h
  rw [ofPys_ints]
  exact same_self _
end Req
namespace S09
open Rb40

/-! ## The descent of a three, in whole numbers, x the greatest. -/
/-- x is the greatest of a three: what comes in its place. -/
theorem prod {x y z : Int} (g : x * x + y * y + z * z = 3 * x * y * z) : x * (3 * y * z - x) = y * y + z * z := by
  have e : x * (3 * y * z - x) = 3 * x * y * z - x * x := by
    rw [Int.mul_sub]
    have : x * (3 * y * z) = 3 * x * y * z := by
      rw [← Int.mul_assoc, ← Int.mul_assoc, Int.mul_comm x 3]
    rw [this]
  omega
theorem above {x y z : Int} (x0 : 0 < x) (y0 : 0 < y) (g : x * x + y * y + z * z = 3 * x * y * z) : 0 < 3 * y * z - x := by
  have p := prod g
  have h1 := Int.mul_pos y0 y0
  have h2 : 0 ≤ z * z := by
    rcases Int.le_total 0 z with h | h
    · exact Int.mul_nonneg h h
    · exact Int.mul_nonneg_of_nonpos_of_nonpos h h
  rcases (by omega : 0 < 3 * y * z - x ∨ 3 * y * z - x ≤ 0) with h | h
  · exact h
  · have := Int.mul_le_mul_of_nonneg_left h (Int.le_of_lt x0)
    rw [Int.mul_zero] at this
    omega
theorem again {x y z : Int} (g : x * x + y * y + z * z = 3 * x * y * z) : (3 * y * z - x) * (3 * y * z - x) + y * y + z * z = 3 * (3 * y * z - x) * y * z := by
  have p := prod g
  have e : 3 * (3 * y * z - x) * y * z = (3 * y * z - x) * (3 * y * z) := by
    rw [Int.mul_comm 3 (3 * y * z - x), Int.mul_assoc, Int.mul_assoc, Int.mul_assoc 3 y z]
  have f : (3 * y * z - x) * (3 * y * z) = (3 * y * z - x) * (3 * y * z - x) + (3 * y * z - x) * x := by
    rw [← Int.mul_add]
    congr 1
    omega
  rw [e, f, Int.mul_comm (3 * y * z - x) x, p]
  omega
/-- y is the second: what comes in x's place is no greater than it, unless x and y are one. -/
theorem second {x y z : Int} (z0 : 0 < z) (zy : z ≤ y) (yx : y < x) (g : x * x + y * y + z * z = 3 * x * y * z) : 3 * y * z - x ≤ y := by
  have p := prod g
  -- (x - y) * (c - y) = z*z + 2*y*y - 3*y*y*z
  rcases (by omega : 3 * y * z - x ≤ y ∨ y + 1 ≤ 3 * y * z - x) with h | h
  · exact h
  · exfalso
    generalize hc : 3 * y * z - x = c at *
    have q : (x - y) * (c - y) = x * c - x * y - y * c + y * y := by
      rw [Int.sub_mul, Int.mul_sub, Int.mul_sub]
      omega
    have s : x * y + y * c = 3 * y * z * y := by
      have : x + c = 3 * y * z := by omega
      rw [Int.mul_comm x y, ← Int.mul_add, this, Int.mul_comm]
    have pos : 0 < (x - y) * (c - y) := Int.mul_pos (by omega) (by omega)
    -- y*y ≤ 3*y*z*y / 3 ... as z ≥ 1
    have hy : 0 < y := by omega
    have e3 : 3 * y * z * y = 3 * (y * y * z) := by
      rw [Int.mul_assoc 3 y z, Int.mul_assoc 3 (y * z) y, Int.mul_assoc y z y, Int.mul_comm z y, ← Int.mul_assoc y y z]
    have h1 : y * y * 1 ≤ y * y * z := Int.mul_le_mul_of_nonneg_left (by omega) (Int.mul_nonneg (by omega) (by omega))
    have h2 : z * z ≤ y * y := Int.le_trans (Int.mul_le_mul_of_nonneg_left zy (by omega)) (Int.mul_le_mul_of_nonneg_right zy (by omega))
    rw [Int.mul_one] at h1
    omega
/-- The two greatest alike: all are one. -/
theorem ones {y z : Int} (z0 : 0 < z) (zy : z ≤ y) (g : y * y + y * y + z * z = 3 * y * y * z) : y = 1 ∧ z = 1 := by
  have e3 : 3 * y * y * z = 3 * (y * y * z) := by rw [Int.mul_assoc 3 y y, Int.mul_assoc 3 (y * y) z]
  have h2 : z * z ≤ y * y := Int.le_trans (Int.mul_le_mul_of_nonneg_left zy (by omega)) (Int.mul_le_mul_of_nonneg_right zy (by omega))
  have hyy : 0 < y * y := Int.mul_pos (by omega) (by omega)
  have hz1 : z = 1 := by
    rcases (by omega : z = 1 ∨ 2 ≤ z) with h | h
    · exact h
    · have := Int.mul_le_mul_of_nonneg_left h (Int.le_of_lt hyy)
      omega
  subst hz1
  rw [Int.mul_one] at e3
  have : y * y = 1 := by omega
  refine ⟨?_, rfl⟩
  rcases (by omega : y = 1 ∨ 2 ≤ y) with h | h
  · exact h
  · have := Int.mul_le_mul_of_nonneg_left h (show 0 ≤ y by omega)
    omega
/-- The second is at most two thirds of the greatest. -/
theorem third {x y z : Int} (z0 : 0 < z) (zy : z ≤ y) (yx : y ≤ x) (g : x * x + y * y + z * z = 3 * x * y * z) : 3 * y ≤ 2 * x ∨ (x = 1 ∧ y = 1 ∧ z = 1) := by
  rcases (by omega : y = x ∨ y < x) with h | h
  · subst h
    have := ones z0 zy g
    omega
  · left
    have s := second z0 zy h g
    have e : 3 * y * z = 3 * (y * z) := Int.mul_assoc 3 y z
    have m := Int.mul_le_mul_of_nonneg_left (show (1 : Int) ≤ z by omega) (show 0 ≤ y by omega)
    omega

/-! ## In natural numbers -/
/-- x is the greatest. -/
theorem fall {x y z : Nat} (x0 : 0 < x) (y0 : 0 < y) (z0 : 0 < z) (yx : y ≤ x) (zx : z ≤ x) (g : x * x + y * y + z * z = 3 * x * y * z) (h1 : ¬ (x = 1 ∧ y = 1 ∧ z = 1)) :
    0 < 3 * y * z - x ∧ (3 * y * z - x) * (3 * y * z - x) + y * y + z * z = 3 * (3 * y * z - x) * y * z ∧ 3 * (3 * y * z - x) ≤ 2 * x ∧ 3 * y ≤ 2 * x ∧ 3 * z ≤ 2 * x ∧ x ≤ 3 * y * z := by
  have G : (x : Int) * x + (y : Int) * y + (z : Int) * z = 3 * (x : Int) * y * z := by exact_mod_cast g
  have A := above (by omega) (by omega) G
  have hle : x ≤ 3 * y * z := by
    have : (x : Int) ≤ ((3 * y * z : Nat) : Int) := by
      rw [Int.natCast_mul, Int.natCast_mul]
      show (x : Int) ≤ 3 * (y : Int) * (z : Int)
      omega
    exact_mod_cast this
  have ec : ((3 * y * z - x : Nat) : Int) = 3 * (y : Int) * z - x := by
    rw [Int.natCast_sub hle, Int.natCast_mul, Int.natCast_mul]
    rfl
  have R := again G
  rw [← ec] at A R
  have key : 3 * (y : Int) ≤ 2 * x ∧ 3 * (z : Int) ≤ 2 * x ∧ 3 * ((3 * y * z - x : Nat) : Int) ≤ 2 * x := by
    rcases Nat.le_total z y with zy | zy
    · have T := third (by omega) (by omega : (z : Int) ≤ y) (by omega : (y : Int) ≤ x) G
      have yx' : y < x := by omega
      have S := second (by omega) (by omega : (z : Int) ≤ y) (by omega : (y : Int) < x) G
      rw [← ec] at S
      omega
    · have G' : (x : Int) * x + (z : Int) * z + (y : Int) * y = 3 * (x : Int) * z * y := by
        have : 3 * (x : Int) * z * y = 3 * (x : Int) * y * z := by rw [Int.mul_assoc (3 * (x : Int)), Int.mul_assoc (3 * (x : Int)), Int.mul_comm (z : Int)]
        rw [this]
        omega
      have T := third (by omega) (by omega : (y : Int) ≤ z) (by omega : (z : Int) ≤ x) G'
      have S := second (by omega) (by omega : (y : Int) ≤ z) (by omega : (z : Int) < x) G'
      have e2 : 3 * (z : Int) * y = 3 * (y : Int) * z := by rw [Int.mul_assoc, Int.mul_assoc, Int.mul_comm (z : Int)]
      rw [e2, ← ec] at S
      omega
  refine ⟨by omega, ?_, by omega, by omega, by omega, hle⟩
  exact_mod_cast R
def top (t : Three) : Nat := max t.1 (max t.2.1 t.2.2)
/-- A three: all above 0. -/
structure Is (t : Three) : Prop where
  a : 0 < t.1
  b : 0 < t.2.1
  c : 0 < t.2.2
  g : t.1 * t.1 + t.2.1 * t.2.1 + t.2.2 * t.2.2 = 3 * t.1 * t.2.1 * t.2.2
theorem mul3 (a b c : Nat) : 3 * a * b * c = 3 * b * a * c := by rw [Nat.mul_assoc 3 a b, Nat.mul_comm a b, ← Nat.mul_assoc]
theorem mul3r (a b c : Nat) : 3 * a * b * c = 3 * c * a * b := by
  rw [Nat.mul_assoc 3 a b, Nat.mul_assoc 3 (a * b) c, Nat.mul_comm (a * b) c, Nat.mul_assoc 3 c a, Nat.mul_assoc 3 (c * a) b, Nat.mul_assoc c a b]
/-- **One change of the greatest.** -/
theorem step {t : Three} (I : Is t) (h1 : t ≠ (1, 1, 1)) : Is (changed t (greatest t)) ∧ 3 * top (changed t (greatest t)) ≤ 2 * top t := by
  obtain ⟨x, y, z⟩ := t
  obtain ⟨a, b, c, g⟩ := I
  dsimp only at a b c g
  have h1' : ¬ (x = 1 ∧ y = 1 ∧ z = 1) := by
    rintro ⟨rfl, rfl, rfl⟩
    exact h1 rfl
  unfold greatest
  dsimp only
  by_cases hx : y ≤ x ∧ z ≤ x
  · rw [if_pos hx]
    obtain ⟨p, q, r, s, u, _⟩ := fall a b c hx.1 hx.2 g h1'
    unfold changed top
    rw [if_pos rfl]
    exact ⟨⟨p, b, c, q⟩, by dsimp only; omega⟩
  · rw [if_neg hx]
    by_cases hy : z ≤ y
    · rw [if_pos hy]
      have g' : y * y + x * x + z * z = 3 * y * x * z := by rw [mul3]; omega
      obtain ⟨p, q, r, s, u, _⟩ := fall b a c (by omega) hy g' (by omega)
      unfold changed top
      rw [if_neg (by decide), if_pos rfl]
      refine ⟨⟨a, p, c, ?_⟩, by dsimp only; omega⟩
      show x * x + (3 * x * z - y) * (3 * x * z - y) + z * z = 3 * x * (3 * x * z - y) * z
      rw [mul3]
      omega
    · rw [if_neg hy]
      have g' : z * z + x * x + y * y = 3 * z * x * y := by rw [← mul3r]; omega
      obtain ⟨p, q, r, s, u, _⟩ := fall c a b (by omega) (by omega) g' (by omega)
      unfold changed top
      rw [if_neg (by decide), if_neg (by decide)]
      refine ⟨⟨a, b, p, ?_⟩, by dsimp only; omega⟩
      show x * x + y * y + (3 * x * y - z) * (3 * x * y - z) = 3 * x * y * (3 * x * y - z)
      rw [mul3r]
      omega
theorem ends : ∀ (f : Nat) (t : Three), Is t → top t * 2 ^ f < 2 * 3 ^ f → ∃ k, k ≤ f ∧ down (f + 1) t = some k
  | 0, t, I, h => by
    obtain ⟨x, y, z⟩ := t
    obtain ⟨a, b, c, g⟩ := I
    unfold top at h
    dsimp only at a b c h
    have e : ((x, y, z) : Three) = (1, 1, 1) := by
      have hx : x = 1 := by omega
      have hy : y = 1 := by omega
      have hz : z = 1 := by omega
      rw [hx, hy, hz]
    refine ⟨0, Nat.le_refl _, ?_⟩
    rw [down, if_pos e]
  | f + 1, t, I, h => by
    by_cases e : t = (1, 1, 1)
    · exact ⟨0, Nat.zero_le _, by rw [down, if_pos e]⟩
    · obtain ⟨I', le⟩ := step I e
      obtain ⟨k, hk, hd⟩ := ends f _ I' (by
        rw [Nat.pow_succ, Nat.pow_succ] at h
        have := Nat.mul_le_mul_right (2 ^ f) le
        rw [Nat.mul_assoc, Nat.mul_assoc] at this
        have e1 : top t * (2 ^ f * 2) = 2 * (top t * 2 ^ f) := by rw [← Nat.mul_assoc, Nat.mul_comm]
        omega)
      refine ⟨k + 1, by omega, ?_⟩
      rw [down, if_neg e, hd]
      rfl
theorem more : ∀ (f g : Nat) (t : Three) (k : Nat), f ≤ g → down f t = some k → down g t = some k
  | 0, _, _, _, _, h => by simp [down] at h
  | f + 1, 0, _, _, l, _ => by omega
  | f + 1, g + 1, t, k, l, h => by
    rw [down] at h ⊢
    by_cases e : t = (1, 1, 1)
    · rw [if_pos e] at h ⊢
      exact h
    · rw [if_neg e] at h ⊢
      cases hd : down f (changed t (greatest t)) with
      | none => rw [hd] at h; simp at h
      | some j =>
        rw [hd] at h
        rw [more f g _ j (by omega) hd]
        exact h
/-- **A three below 2^31 comes down.** -/
theorem comes {t : Three} (I : Is t) (h : top t < 2 ^ 31) : ∃ k, k ≤ 60 ∧ down 10000 t = some k := by
  have h60 : top t * 2 ^ 60 < 2 * 3 ^ 60 :=
    Nat.lt_of_le_of_lt (Nat.mul_le_mul_right (2 ^ 60) (Nat.le_of_lt h)) (by decide)
  obtain ⟨k, hk, e⟩ := ends 60 t I h60
  exact ⟨k, hk, more 61 10000 _ _ (by decide) e⟩

/-! ## How deep, and the letters of a loop -/
def depth (t : Three) : Nat := (down 10000 t).getD 0
theorem down_depth {t : Three} (I : Is t) (h : top t < 2 ^ 31) : down 10000 t = some (depth t) ∧ depth t ≤ 60 := by
  obtain ⟨k, hk, e⟩ := comes I h
  have : depth t = k := by unfold depth; rw [e]; rfl
  rw [this]
  exact ⟨e, hk⟩
theorem depth_one : depth (1, 1, 1) = 0 := rfl
theorem depth_step {t : Three} (I : Is t) (h : top t < 2 ^ 31) (h1 : t ≠ (1, 1, 1)) : depth t = depth (changed t (greatest t)) + 1 := by
  obtain ⟨I', le⟩ := step I h1
  have lt : top (changed t (greatest t)) < 2 ^ 31 := by omega
  obtain ⟨k, hk, e⟩ := ends 60 _ I' (Nat.lt_of_le_of_lt (Nat.mul_le_mul_right (2 ^ 60) (Nat.le_of_lt lt)) (by decide))
  have d1 : depth (changed t (greatest t)) = k := by unfold depth; rw [more 61 10000 _ _ (by decide) e]; rfl
  have d2 : down 10000 t = some (k + 1) := by
    show down (9999 + 1) t = some (k + 1)
    rw [down, if_neg h1, more 61 9999 _ _ (by decide) e]
    rfl
  rw [d1]
  unfold depth
  rw [d2]
  rfl
def three (x y z : Int) : Three := (x.toNat, y.toNat, z.toNat)
/-- Between two turns: the numbers, and what is still to be gone. -/
structure Inv (x0 y0 z0 x y z n : Int) : Prop where
  is : Is (three x y z)
  deep : (depth (three x0 y0 z0) : Int) = n + depth (three x y z)
theorem cast3 {x y z : Int} (hx : 0 < x) (hy : 0 < y) (hz : 0 < z) : (x.toNat * x.toNat + y.toNat * y.toNat + z.toNat * z.toNat = 3 * x.toNat * y.toNat * z.toNat) ↔ (x * x + y * y + z * z = 3 * x * y * z) := by
  have ex : (x.toNat : Int) = x := Int.toNat_of_nonneg (by omega)
  have ey : (y.toNat : Int) = y := Int.toNat_of_nonneg (by omega)
  have ez : (z.toNat : Int) = z := Int.toNat_of_nonneg (by omega)
  constructor
  · intro h
    have : ((x.toNat * x.toNat + y.toNat * y.toNat + z.toNat * z.toNat : Nat) : Int) = ((3 * x.toNat * y.toNat * z.toNat : Nat) : Int) := by rw [h]
    simp only [Int.natCast_add, Int.natCast_mul, ex, ey, ez] at this
    exact this
  · intro h
    have : ((x.toNat * x.toNat + y.toNat * y.toNat + z.toNat * z.toNat : Nat) : Int) = ((3 * x.toNat * y.toNat * z.toNat : Nat) : Int) := by
      simp only [Int.natCast_add, Int.natCast_mul, ex, ey, ez]
      exact h
    exact Int.ofNat_inj.mp this
theorem inv_start {x y z : Int} (hx : 0 < x) (hy : 0 < y) (hz : 0 < z) (g : x * x + y * y + z * z = 3 * x * y * z) : Inv x y z x y z 0 :=
  ⟨⟨by show 0 < x.toNat; omega, by show 0 < y.toNat; omega, by show 0 < z.toNat; omega, (cast3 hx hy hz).mpr g⟩, by omega⟩
theorem not_one {x y z : Int} (h : ¬ (x = 1 ∧ y = 1 ∧ z = 1)) : three x y z ≠ (1, 1, 1) := by
  intro e
  have e1 : x.toNat = 1 := congrArg Prod.fst e
  have e2 : y.toNat = 1 := congrArg (fun t : Three => t.2.1) e
  have e3 : z.toNat = 1 := congrArg (fun t : Three => t.2.2) e
  omega
theorem sub_cast {x y z : Int} (hx : 0 < x) (hy : 0 < y) (hz : 0 < z) : 3 * y.toNat * z.toNat - x.toNat = (3 * y * z - x).toNat := by
  have ex : (x.toNat : Int) = x := Int.toNat_of_nonneg (by omega)
  have e : ((3 * y.toNat * z.toNat : Nat) : Int) = 3 * y * z := by
    rw [Int.natCast_mul, Int.natCast_mul, Int.toNat_of_nonneg (by omega), Int.toNat_of_nonneg (by omega)]
    rfl
  omega
theorem top_lt {x y z : Int} (hx : x < 2147483648) (hy : y < 2147483648) (hz : z < 2147483648) : top (three x y z) < 2 ^ 31 := by
  show max x.toNat (max y.toNat z.toNat) < 2 ^ 31
  omega
/-- The first is the greatest. -/
theorem turn1 {x0 y0 z0 x y z n : Int} (I : Inv x0 y0 z0 x y z n) (hx : 0 < x) (hy : 0 < y) (hz : 0 < z) (lx : x < 2147483648) (ly : y < 2147483648) (lz : z < 2147483648) (h1 : ¬ (x = 1 ∧ y = 1 ∧ z = 1)) (yx : y ≤ x) (zx : z ≤ x) :
    0 < 3 * y * z - x ∧ 3 * y * z - x < x ∧ Inv x0 y0 z0 (3 * y * z - x) y z (n + 1) := by
  obtain ⟨is, deep⟩ := I
  have S := step is (not_one h1)
  have D := depth_step is (top_lt lx ly lz) (not_one h1)
  have e : changed (three x y z) (greatest (three x y z)) = three (3 * y * z - x) y z := by
    have g : greatest (three x y z) = 0 := if_pos ⟨by show y.toNat ≤ x.toNat; omega, by show z.toNat ≤ x.toNat; omega⟩
    rw [g]
    show (3 * y.toNat * z.toNat - x.toNat, y.toNat, z.toNat) = _
    rw [sub_cast hx hy hz]
    rfl
  rw [e] at S D
  have A := S.1.a
  have T := S.2
  change 0 < (3 * y * z - x).toNat at A
  change 3 * max (3 * y * z - x).toNat (max y.toNat z.toNat) ≤ 2 * max x.toNat (max y.toNat z.toNat) at T
  exact ⟨by omega, by omega, S.1, by omega⟩
/-- The second is. -/
theorem turn2 {x0 y0 z0 x y z n : Int} (I : Inv x0 y0 z0 x y z n) (hx : 0 < x) (hy : 0 < y) (hz : 0 < z) (lx : x < 2147483648) (ly : y < 2147483648) (lz : z < 2147483648) (h1 : ¬ (x = 1 ∧ y = 1 ∧ z = 1)) (no : ¬ (y ≤ x ∧ z ≤ x)) (zy : z ≤ y) :
    0 < 3 * x * z - y ∧ 3 * x * z - y < y ∧ Inv x0 y0 z0 x (3 * x * z - y) z (n + 1) := by
  obtain ⟨is, deep⟩ := I
  have S := step is (not_one h1)
  have D := depth_step is (top_lt lx ly lz) (not_one h1)
  have e : changed (three x y z) (greatest (three x y z)) = three x (3 * x * z - y) z := by
    have g : greatest (three x y z) = 1 := by
      unfold greatest
      rw [if_neg (by show ¬ (y.toNat ≤ x.toNat ∧ z.toNat ≤ x.toNat); omega), if_pos (by show z.toNat ≤ y.toNat; omega)]
    rw [g]
    show (x.toNat, 3 * x.toNat * z.toNat - y.toNat, z.toNat) = _
    rw [sub_cast hy hx hz]
    rfl
  rw [e] at S D
  have A := S.1.b
  have T := S.2
  change 0 < (3 * x * z - y).toNat at A
  change 3 * max x.toNat (max (3 * x * z - y).toNat z.toNat) ≤ 2 * max x.toNat (max y.toNat z.toNat) at T
  exact ⟨by omega, by omega, S.1, by omega⟩
/-- The third is. -/
theorem turn3 {x0 y0 z0 x y z n : Int} (I : Inv x0 y0 z0 x y z n) (hx : 0 < x) (hy : 0 < y) (hz : 0 < z) (lx : x < 2147483648) (ly : y < 2147483648) (lz : z < 2147483648) (h1 : ¬ (x = 1 ∧ y = 1 ∧ z = 1)) (no : ¬ (y ≤ x ∧ z ≤ x)) (zy : ¬ z ≤ y) :
    0 < 3 * x * y - z ∧ 3 * x * y - z < z ∧ Inv x0 y0 z0 x y (3 * x * y - z) (n + 1) := by
  obtain ⟨is, deep⟩ := I
  have S := step is (not_one h1)
  have D := depth_step is (top_lt lx ly lz) (not_one h1)
  have e : changed (three x y z) (greatest (three x y z)) = three x y (3 * x * y - z) := by
    have g : greatest (three x y z) = 2 := by
      unfold greatest
      rw [if_neg (by show ¬ (y.toNat ≤ x.toNat ∧ z.toNat ≤ x.toNat); omega), if_neg (by show ¬ z.toNat ≤ y.toNat; omega)]
    rw [g]
    show (x.toNat, y.toNat, 3 * x.toNat * y.toNat - z.toNat) = _
    rw [sub_cast hz hx hy]
    rfl
  rw [e] at S D
  have A := S.1.c
  have T := S.2
  change 0 < (3 * x * y - z).toNat at A
  change 3 * max x.toNat (max y.toNat (3 * x * y - z).toNat) ≤ 2 * max x.toNat (max y.toNat z.toNat) at T
  exact ⟨by omega, by omega, S.1, by omega⟩
/-- **What is due.** -/
theorem due_not {x y z : Int} (hx : 0 < x) (hy : 0 < y) (hz : 0 < z) (g : ¬ x * x + y * y + z * z = 3 * x * y * z) : PyRb40.down x y z = [-1] := by
  show (if x.toNat * x.toNat + y.toNat * y.toNat + z.toNat * z.toNat = 3 * x.toNat * y.toNat * z.toNat then (match down 10000 (x.toNat, y.toNat, z.toNat) with | some k => [(k : Int)] | none => []) else [-1]) = _
  rw [if_neg (fun h => g ((cast3 hx hy hz).mp h))]
theorem due {x y z n : Int} (hx : 0 < x) (hy : 0 < y) (hz : 0 < z) (lx : x < 2147483648) (ly : y < 2147483648) (lz : z < 2147483648) (g : x * x + y * y + z * z = 3 * x * y * z) (I : Inv x y z 1 1 1 n) : PyRb40.down x y z = [n] := by
  show (if x.toNat * x.toNat + y.toNat * y.toNat + z.toNat * z.toNat = 3 * x.toNat * y.toNat * z.toNat then (match down 10000 (x.toNat, y.toNat, z.toNat) with | some k => [(k : Int)] | none => []) else [-1]) = _
  rw [if_pos ((cast3 hx hy hz).mpr g)]
  have D := (down_depth (inv_start hx hy hz g).is (top_lt lx ly lz)).1
  have e : down 10000 (x.toNat, y.toNat, z.toNat) = some (depth (three x y z)) := D
  rw [e]
  have := I.deep
  have z1 : depth (three 1 1 1) = 0 := depth_one
  rw [z1] at this
  show [((depth (three x y z) : Nat) : Int)] = [n]
  rw [this]
  simp
end S09

namespace Req
theorem same1 {x : Int} {k : List Int} (h : [x] = k) : same (ofPy (PyData.list [PyData.int x])) (WData.list (k.map WData.int)) = true := same_list h
end Req
namespace S09
open Rb40
/-- Between two turns. -/
structure W (x y z : Int) (nums : List Int) (n : Int) : Prop where
  is : ∃ a b c, nums = [a, b, c] ∧ 0 < a ∧ 0 < b ∧ 0 < c ∧ a < 2147483648 ∧ b < 2147483648 ∧ c < 2147483648 ∧ Inv x y z a b c n
theorem W.small {x y z n : Int} {nums : List Int} (w : W x y z nums n) (i : Nat) : 0 ≤ nums.getD i 0 ∧ nums.getD i 0 < 2147483648 := by
  obtain ⟨a, b, c, rfl, a0, b0, c0, a1, b1, c1, _⟩ := w
  match i with
  | 0 => exact ⟨by show 0 ≤ a; omega, a1⟩
  | 1 => exact ⟨by show 0 ≤ b; omega, b1⟩
  | 2 => exact ⟨by show 0 ≤ c; omega, c1⟩
  | i + 3 => exact ⟨by show (0 : Int) ≤ 0; omega, by show (0 : Int) < _; omega⟩
/-- A three. -/
structure Good (x y z : Int) : Prop where
  is : x * x + y * y + z * z = 3 * x * y * z
theorem startC {x y z : Int} (g : Good x y z) (x0 : 1 ≤ x) (y0 : 1 ≤ y) (z0 : 1 ≤ z) (x1 : x ≤ 2147483647) (y1 : y ≤ 2147483647) (z1 : z ≤ 2147483647) :
    ([x, y, z] : List Int).length = 3 ∧ W x y z [x, y, z] 0 := ⟨rfl, ⟨x, y, z, rfl, by omega, by omega, by omega, by omega, by omega, by omega, inv_start (by omega) (by omega) (by omega) g.is⟩⟩
/-- The i-th is the greatest, the first of them. -/
structure Top (nums : List Int) (i : Int) : Prop where
  all : ∀ v ∈ nums, v ≤ nums.getD i.toNat 0
  first : ∀ j < i.toNat, nums.getD j 0 < nums.getD i.toNat 0
theorem top3 {a b c i : Int} (t : Top [a, b, c] i) (i0 : 0 ≤ i) (i2 : i ≤ 2) : (i = 0 ∧ b ≤ a ∧ c ≤ a) ∨ (i = 1 ∧ a < b ∧ c ≤ b) ∨ (i = 2 ∧ a < c ∧ b < c) := by
  obtain ⟨al, fi⟩ := t
  rcases (by omega : i = 0 ∨ i = 1 ∨ i = 2) with rfl | rfl | rfl
  · have h1 : b ≤ a := al b (by simp)
    have h2 : c ≤ a := al c (by simp)
    omega
  · have h1 : a < b := fi 0 (by decide)
    have h2 : c ≤ b := al c (by simp)
    omega
  · have h1 : a < c := fi 0 (by decide)
    have h2 : b < c := fi 1 (by decide)
    omega
theorem turnW {x y z n i : Int} {nums : List Int} (w : W x y z nums n) (t : Top nums i) (i0 : 0 ≤ i) (i2 : i ≤ 2) (ne : ¬ nums = [1, 1, 1]) :
    W x y z (nums.set i.toNat (3 * nums.getD ((i + 1).fmod 3).toNat 0 * nums.getD ((i + 2).fmod 3).toNat 0 - nums.getD i.toNat 0)) (n + 1) ∧
    (nums.set i.toNat (3 * nums.getD ((i + 1).fmod 3).toNat 0 * nums.getD ((i + 2).fmod 3).toNat 0 - nums.getD i.toNat 0)).sum.toNat < nums.sum.toNat := by
  obtain ⟨a, b, c, rfl, a0, b0, c0, a1, b1, c1, I⟩ := w
  have h1 : ¬ (a = 1 ∧ b = 1 ∧ c = 1) := by
    rintro ⟨rfl, rfl, rfl⟩
    exact ne rfl
  rcases top3 t i0 i2 with ⟨rfl, p, q⟩ | ⟨rfl, p, q⟩ | ⟨rfl, p, q⟩
  · obtain ⟨r, s, J⟩ := turn1 I a0 b0 c0 a1 b1 c1 h1 p q
    refine ⟨⟨3 * b * c - a, b, c, rfl, r, b0, c0, by omega, b1, c1, J⟩, ?_⟩
    show ([3 * b * c - a, b, c] : List Int).sum.toNat < ([a, b, c] : List Int).sum.toNat
    simp only [List.sum_cons, List.sum_nil]
    omega
  · obtain ⟨r, s, J⟩ := turn2 I a0 b0 c0 a1 b1 c1 h1 (by omega) q
    have e : (3 * c * a - b : Int) = 3 * a * c - b := by rw [Int.mul_assoc, Int.mul_comm c a, ← Int.mul_assoc]
    rw [← e] at r s J
    refine ⟨⟨a, 3 * c * a - b, c, rfl, a0, r, c0, a1, by omega, c1, J⟩, ?_⟩
    show ([a, 3 * c * a - b, c] : List Int).sum.toNat < ([a, b, c] : List Int).sum.toNat
    simp only [List.sum_cons, List.sum_nil]
    omega
  · obtain ⟨r, s, J⟩ := turn3 I a0 b0 c0 a1 b1 c1 h1 (by omega) (by omega)
    refine ⟨⟨a, b, 3 * a * b - c, rfl, a0, b0, r, a1, b1, by omega, J⟩, ?_⟩
    show ([a, b, 3 * a * b - c] : List Int).sum.toNat < ([a, b, c] : List Int).sum.toNat
    simp only [List.sum_cons, List.sum_nil]
    omega
theorem turnC {x y z n i : Int} {nums : List Int} (w : W x y z nums n) (l3 : nums.length = 3) (t : Top nums i) (i0 : 0 ≤ i) (i2 : i ≤ 2) (ne : ¬ nums = [1, 1, 1]) :
    (nums.set i.toNat (3 * nums.getD ((i + 1).fmod 3).toNat 0 * nums.getD ((i + 2).fmod 3).toNat 0 - nums.getD i.toNat 0)).length = 3 ∧
    W x y z (nums.set i.toNat (3 * nums.getD ((i + 1).fmod 3).toNat 0 * nums.getD ((i + 2).fmod 3).toNat 0 - nums.getD i.toNat 0)) (n + 1) :=
  ⟨by rw [List.length_set]; exact l3, (turnW w t i0 i2 ne).1⟩
theorem wholeC {x y z n : Int} {nums : List Int} (w : W x y z nums n) (e : nums = [1, 1, 1]) (g : Good x y z) (x0 : 1 ≤ x) (y0 : 1 ≤ y) (z0 : 1 ≤ z) (x1 : x ≤ 2147483647) (y1 : y ≤ 2147483647) (z1 : z ≤ 2147483647) : [n] = PyRb40.down x y z := by
  obtain ⟨a, b, c, e', _, _, _, _, _, _, I⟩ := w
  rw [e] at e'
  cases e'
  exact (due (by omega) (by omega) (by omega) (by omega) (by omega) (by omega) g.is I).symm
theorem notC {x y z : Int} (g : ¬ Good x y z) (x0 : 1 ≤ x) (y0 : 1 ≤ y) (z0 : 1 ≤ z) : [-1] = PyRb40.down x y z :=
  (due_not (by omega) (by omega) (by omega) (fun h => g ⟨h⟩)).symm
section
open PySem PySem.W PySem.Calls PyProof.Rows
theorem weigh {a : Int} (a0 : 0 < a) (a1 : a < 2147483648) : (if a = 0 then 0 else a.natAbs.log2 + 1) ≤ 100 := by
  have h := PySem.intBits_le_64 (k := a) (by omega) (by omega)
  unfold Builtin.Int.intBits at h
  rw [if_neg (by omega)]
  rw [if_neg (by simp; omega)] at h
  omega
theorem lay {x y z n : Int} {nums : List Int} (w : S09.W x y z nums n) : PyData.layable0 (.list (nums.map PyData.int)) = true := by
  obtain ⟨a, b, c, rfl, a0, b0, c0, a1, b1, c1, _⟩ := w
  have wa := weigh a0 a1
  have wb := weigh b0 b1
  have wc := weigh c0 c1
  simp [PyData.layable0, PyData.canLay0, PyData.canLayAll0, PyData.depth, PyData.depthAll, PyData.weight, PyData.weightAll]
  omega
theorem getD_is {nums : List Int} {j : Nat} (h : j < nums.length) : nums.getD j 0 = nums[j] := by
  simp [List.getD, List.getElem?_eq_getElem h]
theorem idx_top {nums : List Int} {M : Int} (hm : M ∈ nums) (mx : ∀ a ∈ nums, a ≤ M) : Top nums ((nums.idxOf M : Nat) : Int) := by
  have hj : nums.idxOf M < nums.length := List.idxOf_lt_length_iff.mpr hm
  have e : nums.getD (nums.idxOf M) 0 = M := by
    rw [getD_is hj]
    exact List.getElem_idxOf hj
  refine ⟨fun v hv => ?_, fun j hj' => ?_⟩
  · rw [Int.toNat_natCast, e]
    exact mx v hv
  · rw [Int.toNat_natCast] at hj' ⊢
    rw [e]
    have jl : j < nums.length := by omega
    rw [getD_is jl]
    have le := mx _ (List.getElem_mem jl)
    have ne : nums[j] ≠ M := by simpa using PyProof.Rows.ne_of_lt_idxOf hj' jl
    omega
variable {prog : Program} {w : World} {A : Around} {E : Value → Shared → Prop} {s : Shared} {x y : Int} {t u : Tok} {Q : Value → Shared → Prop}
theorem step_index {a b c n : Int} {nums : List Int} {vs : List Value} {l : Addr} {M : Int} (k : S09.W a b c nums n) (hl : s.heap.IsList l vs.toArray) (hi : IntsAre vs nums) (l3 : nums.length = 3) (hm : M ∈ nums) (mx : ∀ a ∈ nums, a ≤ M)
    (h : ∀ i : Int, 0 ≤ i → i ≤ 2 → Top nums i → Q (.int i s.toks) { s with toks := s.toks + 1 }) :
    wpAny (model prog w) A (call (.builtin "list.index") [.ref l, .int M t]) Q E s := by
  have hj : nums.idxOf M < nums.length := List.idxOf_lt_length_iff.mpr hm
  exact PyProof.Rows.index_list_ints hl hi (lay k) hm (h _ (by omega) (by omega) (idx_top hm mx))
theorem step_mul {a b c n : Int} {nums : List Int} {i : Nat} (k : S09.W a b c nums n) (h : Q (.int (x * nums.getD i 0) s.toks) { s with toks := s.toks + 1 }) :
    wpAny (model prog w) A (binaryOp .Mult (.int x t) (.int (nums.getD i 0) u)) Q E s :=
  PyProof.Rows.mul_int h (PySem.IntMulOk.of_right (PySem.intBits_le_64 (by have := k.small i; omega) (by have := k.small i; omega)))
theorem step_mul0 (lo : 0 ≤ y) (hi : y ≤ 2147483647) (h : Q (.int (x * y) s.toks) { s with toks := s.toks + 1 }) :
    wpAny (model prog w) A (binaryOp .Mult (.int x t) (.int y u)) Q E s :=
  PyProof.Rows.mul_int h (PySem.IntMulOk.of_right (PySem.intBits_le_64 (by omega) (by omega)))
theorem step_ne {x y z : Int} (h1 : Good x y z → Q (.bool false) s) (h2 : ¬ Good x y z → Q (.bool true) s) :
    wpAny (model prog w) A (compareOp .NotEq (.int (x * x + y * y + z * z) t) (.int (3 * x * y * z) u)) Q E s := by
  refine PyProof.Rows.ne_int ?_
  by_cases g : x * x + y * y + z * z = 3 * x * y * z
  · have e : (x * x + y * y + z * z != 3 * x * y * z) = false := by rw [g]; simp
    rw [e]
    exact h1 ⟨g⟩
  · have e : (x * x + y * y + z * z != 3 * x * y * z) = true := by simpa using g
    rw [e]
    exact h2 (fun k => g k.is)
end
end S09
open PySem PySem.W PyProof.Rows
local macro_rules | `(tactic| walk_at "binaryOp Mult int int") => `(tactic| (k_here; (with_reducible refine' S09.step_mul0 ?k1 ?k2 ?_); (case k1 => k_dflt omega); (case k2 => k_dflt omega); (try dsimp only)))
local macro_rules | `(tactic| walk_at "binaryOp Mult int int") => `(tactic| (k_here; (with_reducible refine' S09.step_mul ?k1 ?_); (case k1 => k_dflt assumption); (try dsimp only)))
local macro_rules | `(tactic| walk_at "compareOp NotEq int int") => `(tactic| (k_here; ((with_reducible refine' S09.step_ne ?_ ?_) <;> intro hgood)))
local macro_rules | `(tactic| walk_at "call builtin:list.index") => `(tactic| (k_here; (with_reducible refine' S09.step_index ?k1 ?k2 ?k3 ?k4 ?k5 ?k6 ?_); (case k1 => k_dflt assumption); (case k2 => is_list); (case k3 => k_dflt assumption); (case k4 => k_dflt assumption); (case k5 => k_dflt assumption); (case k6 => k_dflt assumption); intro gi gi0 gi2 gtop; (try dsimp only)))
example : Int → Int → Int → List Int → List Int → Int → Prop := fun x y z _ nums n => nums.length = 3 ∧ S09.W x y z nums n
set_option maxRecDepth 100000 in
set_option maxHeartbeats 8000000 in
theorem PySem.Challenge.cw_turnstree_s09_down_holds : PySem.Challenge.rw_turnstree_s09_down.Holds := by
  k_with "state" => first
    | exact S09.startC (by assumption) (by omega) (by omega) (by omega) (by omega) (by omega) (by omega)
    | exact S09.turnC (by assumption) (by assumption) (by assumption) (by assumption) (by assumption) (by assumption)
  k_with "measure" => exact (S09.turnW (by assumption) (by assumption) (by assumption) (by assumption) (by assumption)).2
  k_with "exec While Compare cons nil" => k_while_given ["x", "y", "z"] (fun x y z _ nums n => nums.length = 3 ∧ S09.W x y z nums n) (fun _ _ _ _ nums _ => nums.sum.toNat) "numbers" "times"
  open_ks0 with [.int 1, .int 1, .int 1]
  have noInts : IntsAre ([] : List Value) ([] : List Int) := IntsAre.nil
  with_reducible rename OpenSpec.pre _ _ = true => osPre
  obtain ⟨h1, h2⟩ := Req.dec_cons (os_pre_isSome osPre)
  obtain ⟨h2, h3⟩ := Req.dec_cons h2
  obtain ⟨e1, lo1, hi1⟩ := Req.dec_int h1
  obtain ⟨e2, lo2, hi2⟩ := Req.dec_int h2
  obtain ⟨e3, lo3, hi3⟩ := Req.dec_int h3
  have lo1 : (1 : Int) ≤ _ := lo1
  have hi1 : _ ≤ (2147483647 : Int) := hi1
  have lo2 : (1 : Int) ≤ _ := lo2
  have hi2 : _ ≤ (2147483647 : Int) := hi2
  have lo3 : (1 : Int) ≤ _ := lo3
  have hi3 : _ ≤ (2147483647 : Int) := hi3
  ks_steps
  all_goals refine os_post (Req.dec_join e1 (Req.dec_join e2 e3)) ?_
  all_goals refine Req.same1 ?_
  · have fin : _ = PyRb40.down _ _ _ := S09.wholeC (by assumption) (by assumption) (by assumption) lo1 lo2 lo3 hi1 hi2 hi3
    exact fin
  · exact S09.notC (by assumption) lo1 lo2 lo3
#print axioms PySem.Challenge.cw_turnstree_s09_down_holds
