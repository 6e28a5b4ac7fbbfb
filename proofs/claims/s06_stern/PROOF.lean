import PyProof.Rows.All
import KE.OsGo
import KE.OsMore
import PySem.Challenge.RW_turnstree_s06_stern
open PySem PySem.W
set_option Elab.async false
namespace Req
theorem dec_cons {c : Codec} {cs : List Codec} {d : WData} {ds : List WData} (h : (Codec.decAll (c :: cs) (d :: ds)).isSome = true) :
    (Codec.decAll [c] [d]).isSome = true ∧ (Codec.decAll cs ds).isSome = true := by
  have e : Codec.decAll (c :: cs) (d :: ds) = Codec.both Prod.mk (c.dec d) (Codec.decAll cs ds) := rfl
  have e1 : Codec.decAll [c] [d] = Codec.both Prod.mk (c.dec d) (some ()) := rfl
  rw [e] at h
  rw [e1]
  cases h1 : c.dec d with
  | none =>
    rw [h1] at h
    cases h
  | some a =>
    cases h2 : Codec.decAll cs ds with
    | none =>
      rw [h1, h2] at h
      cases h
    | some r => exact ⟨rfl, rfl⟩
theorem dec_join {c : Codec} {cs : List Codec} {d : WData} {ds : List WData} {a : c.denote} {r : Codec.denoteAll cs} (h1 : Codec.decAll [c] [d] = some (a, ())) (h2 : Codec.decAll cs ds = some r) :
    Codec.decAll (c :: cs) (d :: ds) = some (a, r) := by
  have e : Codec.decAll (c :: cs) (d :: ds) = Codec.both Prod.mk (c.dec d) (Codec.decAll cs ds) := rfl
  have e1 : Codec.decAll [c] [d] = Codec.both Prod.mk (c.dec d) (some ()) := rfl
  rw [e1] at h1
  rw [e, h2]
  cases h3 : c.dec d with
  | none =>
    rw [h3] at h1
    cases h1
  | some b =>
    rw [h3] at h1
    cases h1
    rfl
theorem dec_int {lo hi k : Int} (h : (Codec.decAll [.int lo hi] [WData.int k]).isSome = true) : Codec.decAll [.int lo hi] [WData.int k] = some (k, ()) ∧ lo ≤ k ∧ k ≤ hi := by
  have e : Codec.decAll [.int lo hi] [WData.int k] = Codec.both Prod.mk (if Codec.inInt lo hi k = true then some k else none) (some ()) := rfl
  rw [e] at h ⊢
  cases h1 : Codec.inInt lo hi k with
  | false =>
    rw [h1] at h
    cases h
  | true =>
    unfold Codec.inInt at h1
    simp only [Bool.and_eq_true, decide_eq_true_eq] at h1
    exact ⟨rfl, h1.1, h1.2⟩
theorem same_list {l k : List Int} (h : l = k) : same (WData.list (ofPys (l.map PyData.int))) (WData.list (k.map WData.int)) = true := by
  subst h
  rw [ofPys_ints]
  exact same_self _
end Req
namespace S07
open Rb40

theorem sternOn_more : ∀ (f g n : Nat), n < f → n < g → sternOn f n = sternOn g n
  | 0, _, _, h, _ => by omega
  | f + 1, 0, _, _, h => by omega
  | f + 1, g + 1, n, hf, hg => by
    unfold sternOn
    by_cases h : n < 2
    · rw [if_pos h, if_pos h]
    · rw [if_neg h, if_neg h]
      by_cases e : n % 2 = 0
      · rw [if_pos e, if_pos e, sternOn_more f g (n / 2) (by omega) (by omega)]
      · rw [if_neg e, if_neg e, sternOn_more f g (n / 2) (by omega) (by omega), sternOn_more f g (n / 2 + 1) (by omega) (by omega)]
theorem stern0 : stern 0 = 0 := rfl
theorem stern1 : stern 1 = 1 := rfl
theorem stern_even (n : Nat) : stern (2 * n) = stern n := by
  rcases Nat.eq_zero_or_pos n with rfl | h
  · rfl
  · have e : stern (2 * n) = sternOn (2 * n + 1) (2 * n) := rfl
    rw [e, sternOn, if_neg (by omega), if_pos (by omega), show 2 * n / 2 = n by omega]
    exact sternOn_more _ _ _ (by omega) (by omega)
theorem stern_odd (n : Nat) : stern (2 * n + 1) = stern n + stern (n + 1) := by
  rcases Nat.eq_zero_or_pos n with rfl | h
  · rfl
  · have e : stern (2 * n + 1) = sternOn (2 * n + 1 + 1) (2 * n + 1) := rfl
    rw [e, sternOn, if_neg (by omega), if_neg (by omega), show (2 * n + 1) / 2 = n by omega]
    rw [sternOn_more (2 * n + 1) (n + 1) n (by omega) (by omega), sternOn_more (2 * n + 1) (n + 1 + 1) (n + 1) (by omega) (by omega)]
    rfl
theorem halves {n : Nat} (h : 0 < n) : n = 1 ∨ (∃ m, 0 < m ∧ n = 2 * m) ∨ (∃ m, 0 < m ∧ n = 2 * m + 1) := by
  rcases (by omega : n = 1 ∨ (0 < n / 2 ∧ n = 2 * (n / 2)) ∨ (0 < n / 2 ∧ n = 2 * (n / 2) + 1)) with h | h | h
  · exact Or.inl h
  · exact Or.inr (Or.inl ⟨_, h⟩)
  · exact Or.inr (Or.inr ⟨_, h⟩)
theorem stern_pos : ∀ n : Nat, 0 < n → 0 < stern n := by
  intro n
  induction n using Nat.strongRecOn with
  | ind n ih =>
    intro h
    rcases halves h with rfl | ⟨m, h0, rfl⟩ | ⟨m, h0, rfl⟩
    · decide
    · rw [stern_even]; exact ih m (by omega) h0
    · rw [stern_odd]; have := ih m (by omega) h0; omega
/-- The place of a and b. -/
structure At (n a b : Nat) : Prop where
  pos : 0 < n
  fst : stern n = a
  snd : stern (n + 1) = b
theorem At.one : At 1 1 1 := ⟨by decide, rfl, rfl⟩
theorem At.zero_turn {n a b : Nat} (h : At n a b) : At (2 * n) a (a + b) := by
  obtain ⟨p, rfl, rfl⟩ := h
  exact ⟨by omega, stern_even n, stern_odd n⟩
theorem At.one_turn {n a b : Nat} (h : At n a b) : At (2 * n + 1) (a + b) b := by
  obtain ⟨p, rfl, rfl⟩ := h
  exact ⟨by omega, stern_odd n, by rw [show 2 * n + 1 + 1 = 2 * (n + 1) by omega, stern_even]⟩
theorem At.apos {n a b : Nat} (h : At n a b) : 0 < a := h.fst ▸ stern_pos n h.pos
theorem At.bpos {n a b : Nat} (h : At n a b) : 0 < b := h.snd ▸ stern_pos (n + 1) (by omega)
theorem At.back {n a b : Nat} (h : At n a b) : (n = 1 ∧ a = 1 ∧ b = 1) ∨ (∃ m, n = 2 * m ∧ a < b ∧ At m a (b - a)) ∨ (∃ m, n = 2 * m + 1 ∧ b < a ∧ At m (a - b) b) := by
  obtain ⟨p, rfl, rfl⟩ := h
  rcases halves p with rfl | ⟨m, h0, rfl⟩ | ⟨m, h0, rfl⟩
  · exact Or.inl ⟨rfl, rfl, rfl⟩
  · right; left
    have h1 := stern_pos m h0
    have h2 := stern_pos (m + 1) (by omega)
    refine ⟨m, rfl, ?_, h0, ?_, ?_⟩
    · rw [stern_even, stern_odd]; omega
    · rw [stern_even]
    · rw [stern_even, stern_odd]; omega
  · right; right
    have h1 := stern_pos m h0
    have h2 := stern_pos (m + 1) (by omega)
    have e : stern (2 * m + 1 + 1) = stern (m + 1) := by rw [show 2 * m + 1 + 1 = 2 * (m + 1) by omega, stern_even]
    refine ⟨m, rfl, ?_, h0, ?_, ?_⟩
    · rw [e, stern_odd]; omega
    · rw [e, stern_odd]; omega
    · rw [e]
theorem At.uniq : ∀ {n m a b : Nat}, At n a b → At m a b → n = m := by
  intro n
  induction n using Nat.strongRecOn with
  | ind n ih =>
    intro m a b h k
    rcases h.back with ⟨h1, h2, h3⟩ | ⟨i, h1, h2, h3⟩ | ⟨i, h1, h2, h3⟩
    · rcases k.back with ⟨k1, k2, k3⟩ | ⟨j, k1, k2, k3⟩ | ⟨j, k1, k2, k3⟩ <;> omega
    · rcases k.back with ⟨k1, k2, k3⟩ | ⟨j, k1, k2, k3⟩ | ⟨j, k1, k2, k3⟩
      · omega
      · have := ih i (by have := h3.pos; omega) h3 k3; omega
      · omega
    · rcases k.back with ⟨k1, k2, k3⟩ | ⟨j, k1, k2, k3⟩ | ⟨j, k1, k2, k3⟩
      · omega
      · omega
      · have := ih i (by have := h3.pos; omega) h3 k3; omega
theorem placeOf_at : ∀ (f a b n : Nat), Rb40Neutral.placeOf f a b = some n → At n a b ∧ n < 2 ^ f
  | 0, _, _, _, h => by simp [Rb40Neutral.placeOf] at h
  | f + 1, a, b, n, h => by
    unfold Rb40Neutral.placeOf at h
    have hp : (2 : Nat) ^ (f + 1) = 2 * 2 ^ f := by rw [Nat.pow_succ, Nat.mul_comm]
    have hq : 0 < (2 : Nat) ^ f := Nat.two_pow_pos f
    by_cases h1 : a = 1 ∧ b = 1
    · rw [if_pos h1] at h
      obtain ⟨rfl, rfl⟩ := h1
      cases h
      exact ⟨At.one, by omega⟩
    · rw [if_neg h1] at h
      by_cases h2 : a = 0 ∨ b = 0 ∨ a = b
      · rw [if_pos h2] at h; simp at h
      · rw [if_neg h2] at h
        by_cases h3 : a < b
        · rw [if_pos h3] at h
          cases e : Rb40Neutral.placeOf f a (b - a) with
          | none => rw [e] at h; simp at h
          | some m =>
            rw [e] at h
            have hm : 2 * m = n := by simpa using h
            obtain ⟨A, lt⟩ := placeOf_at f _ _ _ e
            have := A.zero_turn
            rw [show a + (b - a) = b by omega, hm] at this
            exact ⟨this, by omega⟩
        · rw [if_neg h3] at h
          cases e : Rb40Neutral.placeOf f (a - b) b with
          | none => rw [e] at h; simp at h
          | some m =>
            rw [e] at h
            have hm : 2 * m + 1 = n := by simpa using h
            obtain ⟨A, lt⟩ := placeOf_at f _ _ _ e
            have := A.one_turn
            rw [show a - b + b = a by omega, hm] at this
            exact ⟨this, by omega⟩
theorem at_placeOf : ∀ (f a b n : Nat), At n a b → n < 2 ^ f → Rb40Neutral.placeOf f a b = some n
  | 0, _, _, _, h, l => by have := h.pos; simp at l; omega
  | f + 1, a, b, n, h, l => by
    have hp : (2 : Nat) ^ (f + 1) = 2 * 2 ^ f := by rw [Nat.pow_succ, Nat.mul_comm]
    have ha := h.apos
    have hb := h.bpos
    unfold Rb40Neutral.placeOf
    rcases h.back with ⟨h1, h2, h3⟩ | ⟨i, h1, h2, h3⟩ | ⟨i, h1, h2, h3⟩
    · rw [if_pos ⟨h2, h3⟩, h1]
    · rw [if_neg (by omega), if_neg (by omega), if_pos h2, at_placeOf f _ _ _ h3 (by omega), h1]
      rfl
    · rw [if_neg (by omega), if_neg (by omega), if_neg (by omega), at_placeOf f _ _ _ h3 (by omega), h1]
      rfl
/-- **What is due.** -/
theorem due {a b : Int} {n : Nat} (h : At n a.toNat b.toNat) (l : n < 2147483648) : PyRb40.place a b = [(n : Int)] := by
  show [match Rb40Neutral.placeOf 64 a.toNat b.toNat with | some n => if n < MOST then (n : Int) else -1 | none => -1] = _
  rw [at_placeOf 64 _ _ n h (Nat.lt_of_lt_of_le l (by decide))]
  show [if n < MOST then (n : Int) else -1] = _
  rw [if_pos (show n < MOST from l)]
theorem due_none {a b : Int} (h : ∀ n, At n a.toNat b.toNat → 2147483648 ≤ n) : PyRb40.place a b = [-1] := by
  show [match Rb40Neutral.placeOf 64 a.toNat b.toNat with | some n => if n < MOST then (n : Int) else -1 | none => -1] = _
  cases e : Rb40Neutral.placeOf 64 a.toNat b.toNat with
  | none => rfl
  | some n =>
    have A := h n (placeOf_at _ _ _ _ e).1
    show [if n < MOST then (n : Int) else -1] = _
    rw [if_neg (show ¬ n < MOST from Nat.not_lt.mpr A)]
end S07

namespace S06
open Rb40 S07

/-- From the top: u, v are Stern's numbers at m and m + 1. -/
structure Two (m : Nat) (u v : Int) : Prop where
  fst : u = (stern m : Int)
  snd : v = (stern (m + 1) : Int)
theorem Two.zero : Two 0 0 1 := ⟨rfl, rfl⟩
theorem Two.one : Two 1 1 1 := ⟨rfl, rfl⟩
theorem Two.even {m : Nat} {u v : Int} (h : Two m u v) : Two (2 * m) u (u + v) := by
  obtain ⟨rfl, rfl⟩ := h
  exact ⟨by rw [stern_even], by rw [stern_odd]; omega⟩
theorem Two.odd {m : Nat} {u v : Int} (h : Two m u v) : Two (2 * m + 1) (u + v) v := by
  obtain ⟨rfl, rfl⟩ := h
  exact ⟨by rw [stern_odd]; omega, by rw [show 2 * m + 1 + 1 = 2 * (m + 1) by omega, stern_even]⟩
/-- From the bottom: what is due at N by the two at what is left, n. -/
structure Part (N n : Nat) (p q : Int) : Prop where
  is : (stern N : Int) = p * stern n + q * stern (n + 1)
theorem Part.start (N : Nat) : Part N N 1 0 := ⟨by simp⟩
theorem Part.next (N : Nat) : Part (N + 1) N 0 1 := ⟨by simp⟩
theorem Part.even {N n : Nat} {p q : Int} (h : Part N (2 * n) p q) : Part N n (p + q) q := by
  obtain ⟨e⟩ := h
  refine ⟨?_⟩
  rw [e, stern_even, stern_odd, Int.natCast_add, Int.mul_add, Int.add_mul]
  omega
theorem Part.odd {N n : Nat} {p q : Int} (h : Part N (2 * n + 1) p q) : Part N n p (p + q) := by
  obtain ⟨e⟩ := h
  refine ⟨?_⟩
  rw [e, stern_odd, show 2 * n + 1 + 1 = 2 * (n + 1) by omega, stern_even, Int.natCast_add, Int.mul_add, Int.add_mul]
  omega
theorem Part.done {N : Nat} {p q : Int} (h : Part N 0 p q) : (stern N : Int) = q := by
  rw [h.is, stern0, stern1]
  simp
theorem due {n : Int} {u v : Int} (h : Two n.toNat u v) : PyRb40.stern n = [0, u, v] := by
  show [0, (stern n.toNat : Int), (stern (n.toNat + 1) : Int)] = _
  rw [h.fst, h.snd]
end S06

namespace Req
theorem same3 {x y z : Int} {k : List Int} (h : [x, y, z] = k) : same (ofPy (PyData.list [PyData.int x, PyData.int y, PyData.int z])) (WData.list (k.map WData.int)) = true := same_list h
end Req
namespace S06
open Rb40 S07 PySem
def shr (n k : Int) : Int := n.fdiv (2 ^ k.toNat)
theorem lt_pow {n : Int} (n0 : 0 ≤ n) : n.toNat < 2 ^ Builtin.Int.intBits n := by
  have := PyProof.Rows.natAbs_lt_pow_bits n
  rw [show n.toNat = n.natAbs by omega]
  exact this
theorem bl_le {n : Int} (n0 : 0 ≤ n) (n1 : n ≤ 2147483647) : Builtin.Int.intBits n ≤ 31 := by
  refine PyProof.Rows.intBits_le ?_
  have : (2 : Nat) ^ 31 = 2147483648 := by decide
  omega
theorem shr_nat {n k : Int} (n0 : 0 ≤ n) : shr n k = ((n.toNat / 2 ^ k.toNat : Nat) : Int) := by
  obtain ⟨n, rfl⟩ := Int.eq_ofNat_of_zero_le n0
  unfold shr
  have p : (2 : Int) ^ k.toNat = ((2 ^ k.toNat : Nat) : Int) := by simp
  rw [p, Int.fdiv_eq_ediv_of_nonneg _ (Int.natCast_nonneg _)]
  simp
/-- After j turns. -/
structure Word (n : Int) (j : Nat) (h f : Int) : Prop where
  two : Two (n.toNat / 2 ^ (Builtin.Int.intBits n - j)) h f
theorem start {n : Int} (n0 : 0 ≤ n) : Word n 0 0 1 := by
  refine ⟨?_⟩
  rw [Nat.sub_zero, Nat.div_eq_of_lt (lt_pow n0)]
  exact Two.zero
theorem startC {n : Int} (n0 : 0 ≤ n) : Word n ([] : List Int).length 0 1 := start n0
theorem halve {N k : Nat} : N / 2 ^ (k + 1) = N / 2 ^ k / 2 := by
  rw [Nat.pow_succ, Nat.div_div_eq_div_mul]
theorem even {n k : Int} {j : Nat} {h f : Int} (W : Word n j h f) (hk : k = (Builtin.Int.intBits n : Int) - 1 - j) (k0 : 0 ≤ k) (n0 : 0 ≤ n) (b : Int.fmod (shr n k) 2 = 0) : Word n (j + 1) h (h + f) := by
  obtain ⟨T⟩ := W
  refine ⟨?_⟩
  rw [shr_nat n0, Int.fmod_eq_emod_of_nonneg _ (by omega)] at b
  rw [show Builtin.Int.intBits n - j = k.toNat + 1 by omega, halve] at T
  rw [show Builtin.Int.intBits n - (j + 1) = k.toNat by omega]
  generalize n.toNat / 2 ^ k.toNat = m at *
  have E := T.even
  rw [show 2 * (m / 2) = m by omega] at E
  exact E
theorem odd {n k : Int} {j : Nat} {h f : Int} (W : Word n j h f) (hk : k = (Builtin.Int.intBits n : Int) - 1 - j) (k0 : 0 ≤ k) (n0 : 0 ≤ n) (b : ¬ Int.fmod (shr n k) 2 = 0) : Word n (j + 1) (h + f) f := by
  obtain ⟨T⟩ := W
  refine ⟨?_⟩
  rw [shr_nat n0, Int.fmod_eq_emod_of_nonneg _ (by omega)] at b
  rw [show Builtin.Int.intBits n - j = k.toNat + 1 by omega, halve] at T
  rw [show Builtin.Int.intBits n - (j + 1) = k.toNat by omega]
  generalize n.toNat / 2 ^ k.toNat = m at *
  have E := T.odd
  rw [show 2 * (m / 2) + 1 = m by omega] at E
  exact E
theorem evenC {n k v : Int} {pre : List Int} {h f : Int} (W : Word n pre.length h f) (hk : k = (Builtin.Int.intBits n : Int) - 1 - pre.length) (k0 : 0 ≤ k) (n0 : 0 ≤ n) (b : Int.fmod (shr n k) 2 = 0) : Word n (pre ++ [v]).length h (h + f) := by
  rw [List.length_append]
  exact even W hk k0 n0 b
theorem oddC {n k v : Int} {pre : List Int} {h f : Int} (W : Word n pre.length h f) (hk : k = (Builtin.Int.intBits n : Int) - 1 - pre.length) (k0 : 0 ≤ k) (n0 : 0 ≤ n) (b : ¬ Int.fmod (shr n k) 2 = 0) : Word n (pre ++ [v]).length (h + f) f := by
  rw [List.length_append]
  exact odd W hk k0 n0 b
theorem whole {n : Int} {j : Nat} {h f : Int} (W : Word n j h f) (hj : j = Builtin.Int.intBits n) : [0, h, f] = PyRb40.stern n := by
  obtain ⟨T⟩ := W
  rw [hj, Nat.sub_self, Nat.pow_zero, Nat.div_one] at T
  exact (due T).symm
section
open PySem.Calls PyProof.Rows
variable {prog : Program} {w : World} {A : Around} {E : Value → Shared → Prop} {s : Shared} {x y : Int} {t u : Tok} {Q : Value → Shared → Prop}
theorem step_shr (hy : 0 ≤ y) (h : Q (.int (shr x y) s.toks) { s with toks := s.toks + 1 }) :
    wpAny (model prog w) A (binaryOp .RShift (.int x t) (.int y u)) Q E s := PyProof.Rows.rshift_int hy h
end
end S06
open PySem PySem.W PyProof.Rows
local macro_rules | `(tactic| walk_at "binaryOp RShift int int") => `(tactic| (k_here; (with_reducible refine' S06.step_shr ?k1 ?_); (case k1 => k_dflt omega)))
set_option maxRecDepth 100000 in
set_option maxHeartbeats 8000000 in
theorem PySem.Challenge.cw_turnstree_s06_stern_holds : PySem.Challenge.rw_turnstree_s06_stern.Holds := by
  k_with "state" => first
    | exact S06.startC (by omega)
    | exact S06.evenC (by assumption) (by omega) (by omega) (by omega) (by assumption)
    | exact S06.oddC (by assumption) (by omega) (by omega) (by omega) (by assumption)
  k_with "pyIter ref" => k_state_given ["n"] (fun n pre h f => S06.Word n pre.length h f) "here" "follower"
  open_ks0 with [.int 1]
  have noInts : IntsAre ([] : List Value) ([] : List Int) := IntsAre.nil
  with_reducible rename OpenSpec.pre _ _ = true => osPre
  obtain ⟨e1, lo1, hi1⟩ := Req.dec_int (os_pre_isSome osPre)
  have lo1 : (1 : Int) ≤ _ := lo1
  have hi1 : _ ≤ (2147483647 : Int) := hi1
  have osB := S06.bl_le (by omega) hi1
  ks_steps
  refine os_post e1 ?_
  refine Req.same3 ?_
  exact S06.whole (by assumption) (by rw [downKs_length]; dsimp only; omega)
#print axioms PySem.Challenge.cw_turnstree_s06_stern_holds
