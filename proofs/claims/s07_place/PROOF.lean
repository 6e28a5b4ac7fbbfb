import PyProof.Rows.All
import KE.OsGo
import KE.OsMore
import PySem.Challenge.RW_turnstree_s07_place
open PySem PySem.W
set_option Elab.async false
namespace Req
theorem dec_cons {c : Codec} {cs : List Codec} {d : WData} {ds : List WData} (h : (Codec.decAll (c :: cs) (d :: ds)).isSome = true) :
    (Codec.decAll [c] [d]).isSome = true ∧ (Codec.decAll cs ds).isSome = true := by
  have e : Codec.decAll (c :: cs) (d :: ds) = Codec.both Prod.mk (c.dec d) (Codec.decAll cs ds) := rfl
  have e1 : Codec.decAll [c] [d] = Codec.both Prod.mk (c.dec d) (some ()) := rfl
  rw [e] at h
  rw [e1]
  cases h1 : c.dec d with
  | none =>
    rw [h1] at h
    cases h
  | some a =>
    cases h2 : Codec.decAll cs ds with
    | none =>
      rw [h1, h2] at h
      cases h
    | some r => exact ⟨rfl, rfl⟩
theorem dec_join {c : Codec} {cs : List Codec} {d : WData} {ds : List WData} {a : c.denote} {r : Codec.denoteAll cs} (h1 : Codec.decAll [c] [d] = some (a, ())) (h2 : Codec.decAll cs ds = some r) :
    Codec.decAll (c :: cs) (d :: ds) = some (a, r) := by
  have e : Codec.decAll (c :: cs) (d :: ds) = Codec.both Prod.mk (c.dec d) (Codec.decAll cs ds) := rfl
  have e1 : Codec.decAll [c] [d] = Codec.both Prod.mk (c.dec d) (some ()) := rfl
  rw [e1] at h1
  rw [e, h2]
  cases h3 : c.dec d with
  | none =>
    rw [h3] at h1
    cases h1
  | some b =>
    rw [h3] at h1
    cases h1
    rfl
theorem dec_int {lo hi k : Int} (h : (Codec.decAll [.int lo hi] [WData.int k]).isSome = true) : Codec.decAll [.int lo hi] [WData.int k] = some (k, ()) ∧ lo ≤ k ∧ k ≤ hi := by
  have e : Codec.decAll [.int lo hi] [WData.int k] = Codec.both Prod.mk (if Codec.inInt lo hi k = true then some k else none) (some ()) := rfl
  rw [e] at h ⊢
  cases h1 : Codec.inInt lo hi k with
  | false =>
    rw [h1] at h
    cases h
  | true =>
    unfold Codec.inInt at h1
    simp only [Bool.and_eq_true, decide_eq_true_eq] at h1
    exact ⟨rfl, h1.1, h1.2⟩
theorem same_list {l k : List Int} (h : l = k) : same (WData.list (ofPys (l.map PyData.int))) (WData.list (k.map WData.int)) = true := by
  subst h
  rw [ofPys_ints]
  exact same_self _
end Req
namespace S07
open Rb40

theorem sternOn_more : ∀ (f g n : Nat), n < f → n < g → sternOn f n = sternOn g n
  | 0, _, _, h, _ => by omega
  | f + 1, 0, _, _, h => by omega
  | f + 1, g + 1, n, hf, hg => by
    unfold sternOn
    by_cases h : n < 2
    · rw [if_pos h, if_pos h]
    · rw [if_neg h, if_neg h]
      by_cases e : n % 2 = 0
      · rw [if_pos e, if_pos e, sternOn_more f g (n / 2) (by omega) (by omega)]
      · rw [if_neg e, if_neg e, sternOn_more f g (n / 2) (by omega) (by omega), sternOn_more f g (n / 2 + 1) (by omega) (by omega)]
theorem stern0 : stern 0 = 0 := rfl
theorem stern1 : stern 1 = 1 := rfl
theorem stern_even (n : Nat) : stern (2 * n) = stern n := by
  rcases Nat.eq_zero_or_pos n with rfl | h
  · rfl
  · have e : stern (2 * n) = sternOn (2 * n + 1) (2 * n) := rfl
    rw [e, sternOn, if_neg (by omega), if_pos (by omega), show 2 * n / 2 = n by omega]
    exact sternOn_more _ _ _ (by omega) (by omega)
theorem stern_odd (n : Nat) : stern (2 * n + 1) = stern n + stern (n + 1) := by
  rcases Nat.eq_zero_or_pos n with rfl | h
  · rfl
  · have e : stern (2 * n + 1) = sternOn (2 * n + 1 + 1) (2 * n + 1) := rfl
    rw [e, sternOn, if_neg (by omega), if_neg (by omega), show (2 * n + 1) / 2 = n by omega]
    rw [sternOn_more (2 * n + 1) (n + 1) n (by omega) (by omega), sternOn_more (2 * n + 1) (n + 1 + 1) (n + 1) (by omega) (by omega)]
    rfl
theorem halves {n : Nat} (h : 0 < n) : n = 1 ∨ (∃ m, 0 < m ∧ n = 2 * m) ∨ (∃ m, 0 < m ∧ n = 2 * m + 1) := by
  rcases (by omega : n = 1 ∨ (0 < n / 2 ∧ n = 2 * (n / 2)) ∨ (0 < n / 2 ∧ n = 2 * (n / 2) + 1)) with h | h | h
  · exact Or.inl h
  · exact Or.inr (Or.inl ⟨_, h⟩)
  · exact Or.inr (Or.inr ⟨_, h⟩)
theorem stern_pos : ∀ n : Nat, 0 < n → 0 < stern n := by
  intro n
  induction n using Nat.strongRecOn with
  | ind n ih =>
    intro h
    rcases halves h with rfl | ⟨m, h0, rfl⟩ | ⟨m, h0, rfl⟩
    · decide
    · rw [stern_even]; exact ih m (by omega) h0
    · rw [stern_odd]; have := ih m (by omega) h0; omega
/-- The place of a and b. -/
structure At (n a b : Nat) : Prop where
  pos : 0 < n
  fst : stern n = a
  snd : stern (n + 1) = b
theorem At.one : At 1 1 1 := ⟨by decide, rfl, rfl⟩
theorem At.zero_turn {n a b : Nat} (h : At n a b) : At (2 * n) a (a + b) := by
  obtain ⟨p, rfl, rfl⟩ := h
  exact ⟨by omega, stern_even n, stern_odd n⟩
theorem At.one_turn {n a b : Nat} (h : At n a b) : At (2 * n + 1) (a + b) b := by
  obtain ⟨p, rfl, rfl⟩ := h
  exact ⟨by omega, stern_odd n, by rw [show 2 * n + 1 + 1 = 2 * (n + 1) by omega, stern_even]⟩
theorem At.apos {n a b : Nat} (h : At n a b) : 0 < a := h.fst ▸ stern_pos n h.pos
theorem At.bpos {n a b : Nat} (h : At n a b) : 0 < b := h.snd ▸ stern_pos (n + 1) (by omega)
theorem At.back {n a b : Nat} (h : At n a b) : (n = 1 ∧ a = 1 ∧ b = 1) ∨ (∃ m, n = 2 * m ∧ a < b ∧ At m a (b - a)) ∨ (∃ m, n = 2 * m + 1 ∧ b < a ∧ At m (a - b) b) := by
  obtain ⟨p, rfl, rfl⟩ := h
  rcases halves p with rfl | ⟨m, h0, rfl⟩ | ⟨m, h0, rfl⟩
  · exact Or.inl ⟨rfl, rfl, rfl⟩
  · right; left
    have h1 := stern_pos m h0
    have h2 := stern_pos (m + 1) (by omega)
    refine ⟨m, rfl, ?_, h0, ?_, ?_⟩
    · rw [stern_even, stern_odd]; omega
    · rw [stern_even]
    · rw [stern_even, stern_odd]; omega
  · right; right
    have h1 := stern_pos m h0
    have h2 := stern_pos (m + 1) (by omega)
    have e : stern (2 * m + 1 + 1) = stern (m + 1) := by rw [show 2 * m + 1 + 1 = 2 * (m + 1) by omega, stern_even]
    refine ⟨m, rfl, ?_, h0, ?_, ?_⟩
    · rw [e, stern_odd]; omega
    · rw [e, stern_odd]; omega
    · rw [e]
theorem At.uniq : ∀ {n m a b : Nat}, At n a b → At m a b → n = m := by
  intro n
  induction n using Nat.strongRecOn with
  | ind n ih =>
    intro m a b h k
    rcases h.back with ⟨h1, h2, h3⟩ | ⟨i, h1, h2, h3⟩ | ⟨i, h1, h2, h3⟩
    · rcases k.back with ⟨k1, k2, k3⟩ | ⟨j, k1, k2, k3⟩ | ⟨j, k1, k2, k3⟩ <;> omega
    · rcases k.back with ⟨k1, k2, k3⟩ | ⟨j, k1, k2, k3⟩ | ⟨j, k1, k2, k3⟩
      · omega
      · have := ih i (by have := h3.pos; omega) h3 k3; omega
      · omega
    · rcases k.back with ⟨k1, k2, k3⟩ | ⟨j, k1, k2, k3⟩ | ⟨j, k1, k2, k3⟩
      · omega
      · omega
      · have := ih i (by have := h3.pos; omega) h3 k3; omega
theorem placeOf_at : ∀ (f a b n : Nat), Rb40Neutral.placeOf f a b = some n → At n a b ∧ n < 2 ^ f
  | 0, _, _, _, h => by simp [Rb40Neutral.placeOf] at h
  | f + 1, a, b, n, h => by
    unfold Rb40Neutral.placeOf at h
    have hp : (2 : Nat) ^ (f + 1) = 2 * 2 ^ f := by rw [Nat.pow_succ, Nat.mul_comm]
    have hq : 0 < (2 : Nat) ^ f := Nat.two_pow_pos f
    by_cases h1 : a = 1 ∧ b = 1
    · rw [if_pos h1] at h
      obtain ⟨rfl, rfl⟩ := h1
      cases h
      exact ⟨At.one, by omega⟩
    · rw [if_neg h1] at h
      by_cases h2 : a = 0 ∨ b = 0 ∨ a = b
      · rw [if_pos h2] at h; simp at h
      · rw [if_neg h2] at h
        by_cases h3 : a < b
        · rw [if_pos h3] at h
          cases e : Rb40Neutral.placeOf f a (b - a) with
          | none => rw [e] at h; simp at h
          | some m =>
            rw [e] at h
            have hm : 2 * m = n := by simpa using h
            obtain ⟨A, lt⟩ := placeOf_at f _ _ _ e
            have := A.zero_turn
            rw [show a + (b - a) = b by omega, hm] at this
            exact ⟨this, by omega⟩
        · rw [if_neg h3] at h
          cases e : Rb40Neutral.placeOf f (a - b) b with
          | none => rw [e] at h; simp at h
          | some m =>
            rw [e] at h
            have hm : 2 * m + 1 = n := by simpa using h
            obtain ⟨A, lt⟩ := placeOf_at f _ _ _ e
            have := A.one_turn
            rw [show a - b + b = a by omega, hm] at this
            exact ⟨this, by omega⟩
theorem at_placeOf : ∀ (f a b n : Nat), At n a b → n < 2 ^ f → Rb40Neutral.placeOf f a b = some n
  | 0, _, _, _, h, l => by have := h.pos; simp at l; omega
  | f + 1, a, b, n, h, l => by
    have hp : (2 : Nat) ^ (f + 1) = 2 * 2 ^ f := by rw [Nat.pow_succ, Nat.mul_comm]
    have ha := h.apos
    have hb := h.bpos
    unfold Rb40Neutral.placeOf
    rcases h.back with ⟨h1, h2, h3⟩ | ⟨i, h1, h2, h3⟩ | ⟨i, h1, h2, h3⟩
    · rw [if_pos ⟨h2, h3⟩, h1]
    · rw [if_neg (by omega), if_neg (by omega), if_pos h2, at_placeOf f _ _ _ h3 (by omega), h1]
      rfl
    · rw [if_neg (by omega), if_neg (by omega), if_neg (by omega), at_placeOf f _ _ _ h3 (by omega), h1]
      rfl
/-- **What is due.** -/
theorem due {a b : Int} {n : Nat} (h : At n a.toNat b.toNat) (l : n < 2147483648) : PyRb40.place a b = [(n : Int)] := by
  show [match Rb40Neutral.placeOf 64 a.toNat b.toNat with | some n => if n < MOST then (n : Int) else -1 | none => -1] = _
  rw [at_placeOf 64 _ _ n h (Nat.lt_of_lt_of_le l (by decide))]
  show [if n < MOST then (n : Int) else -1] = _
  rw [if_pos (show n < MOST from l)]
theorem due_none {a b : Int} (h : ∀ n, At n a.toNat b.toNat → 2147483648 ≤ n) : PyRb40.place a b = [-1] := by
  show [match Rb40Neutral.placeOf 64 a.toNat b.toNat with | some n => if n < MOST then (n : Int) else -1 | none => -1] = _
  cases e : Rb40Neutral.placeOf 64 a.toNat b.toNat with
  | none => rfl
  | some n =>
    have A := h n (placeOf_at _ _ _ _ e).1
    show [if n < MOST then (n : Int) else -1] = _
    rw [if_neg (show ¬ n < MOST from Nat.not_lt.mpr A)]
end S07

namespace Req
theorem same1 {x : Int} {k : List Int} (h : [x] = k) : same (ofPy (PyData.list [PyData.int x])) (WData.list (k.map WData.int)) = true := same_list h
theorem same3 {x y z : Int} {k : List Int} (h : [x, y, z] = k) : same (ofPy (PyData.list [PyData.int x, PyData.int y, PyData.int z])) (WData.list (k.map WData.int)) = true := same_list h
end Req
namespace S07
/-- What is told so far: of a's and b's place the lower digits n, below d, and the rest by what is left. -/
structure Told (a b n d x y : Int) : Prop where
  fwd : ∀ p, At p x.toNat y.toNat → At (p * d.toNat + n.toNat) a.toNat b.toNat
  bwd : ∀ m, At m a.toNat b.toNat → ∃ p, At p x.toNat y.toNat ∧ m = p * d.toNat + n.toNat
  pow : ∃ k : Nat, d.toNat = 2 ^ k
  lt : n < d
theorem Told.start {a b : Int} : Told a b 0 1 a b :=
  ⟨fun p h => by simpa using h, fun m h => ⟨m, h, by simp⟩, ⟨0, rfl⟩, by omega⟩
theorem twice {d : Int} (hd : 1 ≤ d) : (2 * d).toNat = 2 * d.toNat := by omega
theorem Told.up {a b n d x y : Int} (T : Told a b n d x y) (n0 : 0 ≤ n) (d0 : 1 ≤ d) (x0 : 0 < x) (y0 : 0 < y) (h : y < x) : Told a b (n + d) (2 * d) (x - y) y := by
  obtain ⟨f, g, ⟨k, e⟩, l⟩ := T
  have en : (n + d).toNat = n.toNat + d.toNat := by omega
  have ex : (x - y).toNat = x.toNat - y.toNat := by omega
  have key : ∀ p : Nat, (2 * p + 1) * d.toNat + n.toNat = p * (2 * d.toNat) + (n.toNat + d.toNat) := by
    intro p
    rw [Nat.add_mul, Nat.mul_assoc, Nat.mul_left_comm]
    omega
  refine ⟨fun p A => ?_, fun m A => ?_, ⟨k + 1, by rw [twice d0, e, Nat.pow_succ, Nat.mul_comm]⟩, by omega⟩
  · rw [ex] at A
    have B := A.one_turn
    rw [show x.toNat - y.toNat + y.toNat = x.toNat by omega] at B
    have C := f _ B
    rw [key] at C
    rw [en, twice d0]
    exact C
  · obtain ⟨p, B, rfl⟩ := g m A
    rcases B.back with ⟨_, h2, h3⟩ | ⟨q, _, h2, _⟩ | ⟨q, rfl, _, h3⟩
    · omega
    · omega
    · exact ⟨q, by rw [ex]; exact h3, by rw [key, en, twice d0]⟩
theorem Told.down {a b n d x y : Int} (T : Told a b n d x y) (n0 : 0 ≤ n) (d0 : 1 ≤ d) (x0 : 0 < x) (y0 : 0 < y) (h : x < y) : Told a b n (2 * d) x (y - x) := by
  obtain ⟨f, g, ⟨k, e⟩, l⟩ := T
  have ex : (y - x).toNat = y.toNat - x.toNat := by omega
  have key : ∀ p : Nat, (2 * p) * d.toNat + n.toNat = p * (2 * d.toNat) + n.toNat := by
    intro p
    rw [Nat.mul_assoc, Nat.mul_left_comm]
  refine ⟨fun p A => ?_, fun m A => ?_, ⟨k + 1, by rw [twice d0, e, Nat.pow_succ, Nat.mul_comm]⟩, by omega⟩
  · rw [ex] at A
    have B := A.zero_turn
    rw [show x.toNat + (y.toNat - x.toNat) = y.toNat by omega] at B
    have C := f _ B
    rw [key] at C
    rw [twice d0]
    exact C
  · obtain ⟨p, B, rfl⟩ := g m A
    rcases B.back with ⟨_, h2, h3⟩ | ⟨q, rfl, _, h3⟩ | ⟨q, _, h2, _⟩
    · omega
    · exact ⟨q, by rw [ex]; exact h3, by rw [key, twice d0]⟩
    · omega
/-- Too far. -/
theorem Told.far {a b n d x y : Int} (T : Told a b n d x y) (h : 2147483648 ≤ d) : PyRb40.place a b = [-1] := by
  refine due_none fun m A => ?_
  obtain ⟨p, B, rfl⟩ := T.bwd m A
  have := Nat.mul_le_mul_right d.toNat (show 1 ≤ p from B.pos)
  omega
theorem Told.no {a b n d x : Int} (T : Told a b n d x x) (h : ¬ x = 1) (x0 : 0 < x) : PyRb40.place a b = [-1] := by
  refine due_none fun m A => ?_
  obtain ⟨p, B, rfl⟩ := T.bwd m A
  rcases B.back with ⟨_, h2, h3⟩ | ⟨q, rfl, _, h3⟩ | ⟨q, _, h2, _⟩ <;> omega
theorem small {d : Nat} (h : ∃ k : Nat, d = 2 ^ k) (l : d < 2147483648) : d ≤ 1073741824 := by
  obtain ⟨k, rfl⟩ := h
  have hk : k < 31 := (Nat.pow_lt_pow_iff_right (by decide : 1 < 2)).mp (show 2 ^ k < 2 ^ 31 from l)
  exact Nat.pow_le_pow_right (by decide) (show k ≤ 30 by omega)
theorem Told.yes {a b n d : Int} (T : Told a b n d 1 1) (n0 : 0 ≤ n) (d0 : 1 ≤ d) (d1 : d < 2147483648) : PyRb40.place a b = [n + d] := by
  have A := T.fwd 1 At.one
  have l := small T.pow (by omega)
  have := T.lt
  rw [due A (by omega)]
  congr 1
  omega
theorem Told.end1 {a b n d x y : Int} (T : Told a b n d x y) (e : x = y) (e1 : x = 1) (n0 : 0 ≤ n) (d0 : 1 ≤ d) (d1 : d < 2147483648) : [n + d] = PyRb40.place a b := by
  subst e
  subst e1
  exact (T.yes n0 d0 d1).symm
theorem Told.end2 {a b n d x y : Int} (T : Told a b n d x y) (e : x = y) (e1 : ¬ x = 1) (x0 : 0 < x) : [-1] = PyRb40.place a b := by
  subst e
  exact (T.no e1 x0).symm
theorem startC {a b : Int} (a0 : 1 ≤ a) (a1 : a ≤ 2147483647) (b0 : 1 ≤ b) (b1 : b ≤ 2147483647) :
    0 < a ∧ 0 < b ∧ a ≤ 2147483647 ∧ b ≤ 2147483647 ∧ (0 : Int) ≤ 0 ∧ (0 : Int) < 2147483648 ∧ (1 : Int) ≤ 1 ∧ (1 : Int) < 2147483648 ∧ Told a b 0 1 a b :=
  ⟨by omega, by omega, by omega, by omega, by omega, by omega, by omega, by omega, Told.start⟩
theorem upC {a b n d x y : Int} (T : Told a b n d x y) (h : y < x) (n0 : 0 ≤ n) (d0 : 1 ≤ d) (x0 : 0 < x) (y0 : 0 < y) (x1 : x ≤ 2147483647) (y1 : y ≤ 2147483647) (l : 2 * d < 2147483648) :
    0 < x - y ∧ 0 < y ∧ x - y ≤ 2147483647 ∧ y ≤ 2147483647 ∧ 0 ≤ n + d ∧ n + d < 2147483648 ∧ 1 ≤ 2 * d ∧ 2 * d < 2147483648 ∧ Told a b (n + d) (2 * d) (x - y) y :=
  ⟨by omega, by omega, by omega, by omega, by omega, by have := T.lt; omega, by omega, by omega, T.up n0 d0 x0 y0 h⟩
theorem downC {a b n d x y : Int} (T : Told a b n d x y) (h : x < y) (n0 : 0 ≤ n) (d0 : 1 ≤ d) (x0 : 0 < x) (y0 : 0 < y) (x1 : x ≤ 2147483647) (y1 : y ≤ 2147483647) (l : 2 * d < 2147483648) :
    0 < x ∧ 0 < y - x ∧ x ≤ 2147483647 ∧ y - x ≤ 2147483647 ∧ 0 ≤ n ∧ n < 2147483648 ∧ 1 ≤ 2 * d ∧ 2 * d < 2147483648 ∧ Told a b n (2 * d) x (y - x) :=
  ⟨by omega, by omega, by omega, by omega, by omega, by have := T.lt; omega, by omega, by omega, T.down n0 d0 x0 y0 h⟩
theorem farC {a b n d x y : Int} (T : Told a b n d x y) (ne : ¬ x = y) (n0 : 0 ≤ n) (d0 : 1 ≤ d) (x0 : 0 < x) (y0 : 0 < y) (l : 2147483648 ≤ 2 * d) : [-1] = PyRb40.place a b := by
  rcases (by omega : y < x ∨ x < y) with h | h
  · exact ((T.up n0 d0 x0 y0 h).far l).symm
  · exact ((T.down n0 d0 x0 y0 h).far l).symm
end S07
open PySem PySem.W PyProof.Rows
example : Int → Int → List Int → Int → Int → Int → Int → Prop := fun a b _ x y n d => 0 < x ∧ 0 < y ∧ x ≤ 2147483647 ∧ y ≤ 2147483647 ∧ 0 ≤ n ∧ n < 2147483648 ∧ 1 ≤ d ∧ d < 2147483648 ∧ S07.Told a b n d x y
set_option maxRecDepth 100000 in
set_option maxHeartbeats 8000000 in
theorem PySem.Challenge.cw_turnstree_s07_place_holds : PySem.Challenge.rw_turnstree_s07_place.Holds := by
  k_with "state" => first
    | exact S07.startC (by omega) (by omega) (by omega) (by omega)
    | exact S07.upC (by assumption) (by omega) (by omega) (by omega) (by omega) (by omega) (by omega) (by omega) (by omega)
    | exact S07.downC (by assumption) (by omega) (by omega) (by omega) (by omega) (by omega) (by omega) (by omega) (by omega)
  k_with "exec While Compare cons nil" => k_while_given ["a", "b"] (fun a b _ x y n d => 0 < x ∧ 0 < y ∧ x ≤ 2147483647 ∧ y ≤ 2147483647 ∧ 0 ≤ n ∧ n < 2147483648 ∧ 1 ≤ d ∧ d < 2147483648 ∧ S07.Told a b n d x y) (fun _ _ _ x y _ _ => (x + y).toNat) "first" "second" "n" "digit"
  open_ks0 with [.int 1, .int 1]
  have noInts : IntsAre ([] : List Value) ([] : List Int) := IntsAre.nil
  with_reducible rename OpenSpec.pre _ _ = true => osPre
  obtain ⟨h1, h2⟩ := Req.dec_cons (os_pre_isSome osPre)
  obtain ⟨e1, lo1, hi1⟩ := Req.dec_int h1
  obtain ⟨e2, lo2, hi2⟩ := Req.dec_int h2
  ks_steps
  all_goals refine os_post (Req.dec_join e1 e2) ?_
  all_goals refine Req.same1 ?_
  all_goals first
    | exact S07.Told.end1 (by assumption) (by omega) (by omega) (by omega) (by omega) (by omega)
    | exact S07.Told.end2 (by assumption) (by omega) (by omega) (by omega)
    | exact S07.farC (by assumption) (by omega) (by omega) (by omega) (by omega) (by omega) (by omega)
#print axioms PySem.Challenge.cw_turnstree_s07_place_holds
