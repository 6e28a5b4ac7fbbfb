import PyProof.Rows.All
import KE.OsGo
import KE.OsMore
import PySem.Challenge.RW_turnstree_s03_between
open PySem PySem.W
set_option Elab.async false
namespace Req
theorem dec_cons {c : Codec} {cs : List Codec} {d : WData} {ds : List WData} (h : (Codec.decAll (c :: cs) (d :: ds)).isSome = true) :
    (Codec.decAll [c] [d]).isSome = true ∧ (Codec.decAll cs ds).isSome = true := by
  have e : Codec.decAll (c :: cs) (d :: ds) = Codec.both Prod.mk (c.dec d) (Codec.decAll cs ds) := rfl
  have e1 : Codec.decAll [c] [d] = Codec.both Prod.mk (c.dec d) (some ()) := rfl
  rw [e] at h
  rw [e1]
  cases h1 : c.dec d with
  | none =>
    rw [h1] at h
    cases h
  | some a =>
    cases h2 : Codec.decAll cs ds with
    | none =>
      rw [h1, h2] at h
      cases h
    | some r => exact ⟨rfl, rfl⟩
theorem dec_join {c : Codec} {cs : List Codec} {d : WData} {ds : List WData} {a : c.denote} {r : Codec.denoteAll cs} (h1 : Codec.decAll [c] [d] = some (a, ())) (h2 : Codec.decAll cs ds = some r) :
    Codec.decAll (c :: cs) (d :: ds) = some (a, r) := by
  have e : Codec.decAll (c :: cs) (d :: ds) = Codec.both Prod.mk (c.dec d) (Codec.decAll cs ds) := rfl
  have e1 : Codec.decAll [c] [d] = Codec.both Prod.mk (c.dec d) (some ()) := rfl
  rw [e1] at h1
  rw [e, h2]
  cases h3 : c.dec d with
  | none =>
    rw [h3] at h1
    cases h1
  | some b =>
    rw [h3] at h1
    cases h1
    rfl
theorem dec_int {lo hi k : Int} (h : (Codec.decAll [.int lo hi] [WData.int k]).isSome = true) : Codec.decAll [.int lo hi] [WData.int k] = some (k, ()) ∧ lo ≤ k ∧ k ≤ hi := by
  have e : Codec.decAll [.int lo hi] [WData.int k] = Codec.both Prod.mk (if Codec.inInt lo hi k = true then some k else none) (some ()) := rfl
  rw [e] at h ⊢
  cases h1 : Codec.inInt lo hi k with
  | false =>
    rw [h1] at h
    cases h
  | true =>
    unfold Codec.inInt at h1
    simp only [Bool.and_eq_true, decide_eq_true_eq] at h1
    exact ⟨rfl, h1.1, h1.2⟩
theorem same_list {l k : List Int} (h : l = k) : same (WData.list (ofPys (l.map PyData.int))) (WData.list (k.map WData.int)) = true := by
  subst h
  rw [ofPys_ints]
  exact same_self _
end Req
namespace S03
open Rb40

/-- y serves as a lower number. -/
def hit (a b c d y : Nat) : Prop := (a * y / b + 1) * d < c * y
theorem found (a b c d y : Nat) : ∀ (l : List Nat), y ∈ l → hit a b c d (y + 1) → (∀ k ∈ l, k ≠ y → hit a b c d (k + 1) → y < k) → l.Pairwise (· < ·) →
    (l.findSome? fun (k : Nat) => let y := k + 1; let x := a * y / b + 1; if x * d < c * y then some (x, y) else none) = some (a * (y + 1) / b + 1, y + 1)
  | [], h, _, _, _ => by simp at h
  | k :: r, h, hy, hm, hp => by
    rw [List.findSome?_cons]
    rcases List.mem_cons.mp h with e | e
    · subst e
      have : (a * (y + 1) / b + 1) * d < c * (y + 1) := hy
      simp only [if_pos this]
    · obtain ⟨p1, p2⟩ := List.pairwise_cons.mp hp
      have lt := p1 y e
      have no : ¬ (a * (k + 1) / b + 1) * d < c * (k + 1) := fun hk => by
        have := hm k (List.mem_cons_self ..) (by omega) hk
        omega
      simp only [if_neg no]
      exact found a b c d y r e hy (fun j hj => hm j (List.mem_cons_of_mem _ hj)) p2
theorem sorted_range (n : Nat) : (List.range n).Pairwise (· < ·) := List.pairwise_lt_range
/-- The least that serves, within the bound. -/
theorem least {a b c d y : Nat} (y0 : 0 < y) (yb : y ≤ b + d + 1) (h : hit a b c d y) (m : ∀ v, 0 < v → v < y → ¬ hit a b c d v) : Rb40Neutral.simplest a b c d = (a * y / b + 1, y) := by
  obtain ⟨k, rfl⟩ : ∃ k, y = k + 1 := ⟨y - 1, by omega⟩
  unfold Rb40Neutral.simplest
  rw [found a b c d k _ (List.mem_range.mpr (by omega)) h (fun j _ ne hj => ?_) (sorted_range _)]
  rcases (by omega : k < j ∨ j < k) with l | l
  · exact l
  · exact absurd hj (m (j + 1) (by omega) (by omega))
/-- Some lower number serves: that of the mediant. -/
theorem mediant {a b c d : Nat} (b0 : 0 < b) (d0 : 0 < d) (h : a * d < c * b) : hit a b c d (b + d) := by
  unfold hit
  have e : a * (b + d) / b = a + a * d / b := by
    rw [Nat.mul_add, Nat.mul_comm a b, Nat.mul_add_div b0]
  have l : a * d / b < c := (Nat.div_lt_iff_lt_mul b0).mpr h
  rw [e]
  have : (a + a * d / b + 1) * d ≤ (a + c) * d := Nat.mul_le_mul_right d (by omega)
  have f : (a + c) * d = a * d + c * d := Nat.add_mul a c d
  rw [Nat.mul_add]
  omega
theorem hit_between {a b c d y : Nat} (b0 : 0 < b) (y0 : 0 < y) (h : hit a b c d y) : Between a b c d (a * y / b + 1) y := by
  refine ⟨y0, ?_, h⟩
  have := Nat.lt_mul_div_succ (a * y) b0
  rw [Nat.mul_comm (a * y / b + 1) b]
  exact this
theorem between_hit {a b c d x y : Nat} (b0 : 0 < b) (h : Between a b c d x y) : a * y / b + 1 ≤ x ∧ hit a b c d y := by
  obtain ⟨y0, h1, h2⟩ := h
  have l : a * y / b < x := (Nat.div_lt_iff_lt_mul b0).mpr h1
  refine ⟨l, ?_⟩
  exact Nat.lt_of_le_of_lt (Nat.mul_le_mul_right d l) h2
theorem simplest_is {a b c d x y : Nat} (b0 : 0 < b) (d0 : 0 < d) (h : a * d < c * b) (S : Simplest a b c d x y) : Rb40Neutral.simplest a b c d = (x, y) := by
  obtain ⟨B, m⟩ := S
  obtain ⟨lx, hy⟩ := between_hit b0 B
  have e : x = a * y / b + 1 := by
    have := m _ _ (hit_between b0 B.1 hy)
    omega
  have yb : y ≤ b + d + 1 := by
    have := m _ _ (hit_between b0 (by omega) (mediant b0 d0 h))
    omega
  rw [e]
  refine least B.1 yb hy fun v v0 lt hv => ?_
  have := m _ _ (hit_between b0 v0 hv)
  omega
/-- **What is due.** -/
theorem due {a b c d : Int} {x y : Nat} (b0 : 0 < b) (d0 : 0 < d) (h : a.toNat * d.toNat < c.toNat * b.toNat) (S : Simplest a.toNat b.toNat c.toNat d.toNat x y) : PyRb40.between a b c d = [0, (x : Int), (y : Int)] := by
  show (let r := Rb40Neutral.simplest a.toNat b.toNat c.toNat d.toNat; [0, (r.1 : Int), (r.2 : Int)]) = _
  rw [simplest_is (by omega) (by omega) h S]
theorem due_least {a b c d : Int} {y : Nat} (y0 : 0 < y) (yb : y ≤ b.toNat + d.toNat + 1) (h : hit a.toNat b.toNat c.toNat d.toNat y) (m : ∀ v, 0 < v → v < y → ¬ hit a.toNat b.toNat c.toNat d.toNat v) :
    PyRb40.between a b c d = [0, ((a.toNat * y / b.toNat + 1 : Nat) : Int), (y : Int)] := by
  show (let r := Rb40Neutral.simplest a.toNat b.toNat c.toNat d.toNat; [0, (r.1 : Int), (r.2 : Int)]) = _
  rw [least y0 yb h m]
end S03

namespace Req
theorem same3 {x y z : Int} {k : List Int} (h : [x, y, z] = k) : same (ofPy (PyData.list [PyData.int x, PyData.int y, PyData.int z])) (WData.list (k.map WData.int)) = true := same_list h
end Req
namespace S03
open Rb40
/-- The least upper number above, as it is reckoned. -/
def la (a b l : Int) : Int := Int.fdiv (a * l) b + 1
theorem la_nat {a b l : Int} (a0 : 0 ≤ a) (b0 : 1 ≤ b) (l0 : 1 ≤ l) : la a b l = ((a.toNat * l.toNat / b.toNat + 1 : Nat) : Int) := by
  obtain ⟨a, rfl⟩ := Int.eq_ofNat_of_zero_le a0
  obtain ⟨b, rfl⟩ := Int.eq_ofNat_of_zero_le (show 0 ≤ b by omega)
  obtain ⟨l, rfl⟩ := Int.eq_ofNat_of_zero_le (show 0 ≤ l by omega)
  unfold la
  rw [Int.fdiv_eq_ediv_of_nonneg _ (by omega)]
  simp
theorem la_bound {a b l : Int} (a0 : 0 ≤ a) (a1 : a ≤ 5000) (b0 : 1 ≤ b) (l0 : 1 ≤ l) (l1 : l ≤ 10001) : 1 ≤ la a b l ∧ la a b l ≤ 50005001 := by
  rw [la_nat a0 b0 l0]
  have h1 : a.toNat * l.toNat / b.toNat ≤ a.toNat * l.toNat := Nat.div_le_self _ _
  have h2 : a.toNat * l.toNat ≤ 5000 * 10001 := Nat.mul_le_mul (by omega) (by omega)
  generalize a.toNat * l.toNat / b.toNat = q at *
  generalize a.toNat * l.toNat = p at *
  omega
/-- Between two turns. -/
structure Inv (a b c d u l : Int) : Prop where
  eq : u = la a b l
  no : ∀ v, 0 < v → v < l.toNat → ¬ hit a.toNat b.toNat c.toNat d.toNat v
  lt : a.toNat * d.toNat < c.toNat * b.toNat
theorem hit_iff {a b c d l : Int} (a0 : 0 ≤ a) (b0 : 1 ≤ b) (c0 : 1 ≤ c) (d0 : 1 ≤ d) (l0 : 1 ≤ l) : hit a.toNat b.toNat c.toNat d.toNat l.toNat ↔ la a b l * d < c * l := by
  unfold hit
  rw [la_nat a0 b0 l0]
  have e1 : (d : Int) = (d.toNat : Int) := by omega
  have e2 : (c : Int) = (c.toNat : Int) := by omega
  have e3 : (l : Int) = (l.toNat : Int) := by omega
  generalize a.toNat * l.toNat / b.toNat + 1 = q
  generalize d.toNat = d' at *
  generalize c.toNat = c' at *
  generalize l.toNat = l' at *
  rw [e1, e2, e3, ← Int.natCast_mul, ← Int.natCast_mul]
  omega
theorem startC {a b c d : Int} (lt : a.toNat * d.toNat < c.toNat * b.toNat) (a0 : 0 ≤ a) (a1 : a ≤ 5000) (b0 : 1 ≤ b) (b1 : b ≤ 5000) (d0 : 1 ≤ d) (d1 : d ≤ 5000) :
    1 ≤ la a b 1 ∧ la a b 1 ≤ 50005001 ∧ (1 : Int) ≤ 1 ∧ 1 ≤ b + d ∧ Inv a b c d (la a b 1) 1 := by
  have := la_bound a0 a1 b0 (by omega : (1 : Int) ≤ 1) (by omega)
  exact ⟨this.1, this.2, by omega, by omega, rfl, fun v h l => by omega, lt⟩
theorem turnC {a b c d u l : Int} (I : Inv a b c d u l) (no : c * l ≤ u * d) (a0 : 0 ≤ a) (a1 : a ≤ 5000) (b0 : 1 ≤ b) (b1 : b ≤ 5000) (c0 : 1 ≤ c) (d0 : 1 ≤ d) (d1 : d ≤ 5000) (l0 : 1 ≤ l) (l1 : l ≤ b + d) :
    1 ≤ la a b (l + 1) ∧ la a b (l + 1) ≤ 50005001 ∧ 1 ≤ l + 1 ∧ l + 1 ≤ b + d ∧ Inv a b c d (la a b (l + 1)) (l + 1) := by
  obtain ⟨rfl, n, lt⟩ := I
  have := la_bound a0 a1 b0 (by omega : (1 : Int) ≤ l + 1) (by omega)
  have nh : ¬ hit a.toNat b.toNat c.toNat d.toNat l.toNat := fun h => by
    have := (hit_iff a0 b0 c0 d0 l0).mp h
    omega
  have ne : l ≠ b + d := fun e => by
    have M := mediant (a := a.toNat) (b := b.toNat) (c := c.toNat) (d := d.toNat) (by omega) (by omega) lt
    rw [show b.toNat + d.toNat = l.toNat by omega] at M
    exact nh M
  refine ⟨this.1, this.2, by omega, by omega, rfl, fun v h lv => ?_, lt⟩
  rcases (by omega : v = l.toNat ∨ v < l.toNat) with rfl | e
  · exact nh
  · exact n v h e
theorem wholeC {a b c d u l : Int} (I : Inv a b c d u l) (yes : u * d < c * l) (a0 : 0 ≤ a) (b0 : 1 ≤ b) (c0 : 1 ≤ c) (d0 : 1 ≤ d) (l0 : 1 ≤ l) (l1 : l ≤ b + d) : [0, u, l] = PyRb40.between a b c d := by
  obtain ⟨rfl, n, lt⟩ := I
  have h := (hit_iff a0 b0 c0 d0 l0).mpr yes
  rw [due_least (by omega) (by omega) h n, la_nat a0 b0 l0, show ((l.toNat : Nat) : Int) = l by omega]
theorem asked_lt {a b c d : Int} (a0 : 0 ≤ a) (b0 : 1 ≤ b) (c0 : 1 ≤ c) (d0 : 1 ≤ d) (h : PyRb40.between_asked a b c d = true) : a.toNat * d.toNat < c.toNat * b.toNat := by
  have e : PyRb40.between_asked a b c d = ((Rb40Neutral.asked1 [[2, a, b, c, d]] && true) && true) := rfl
  rw [e] at h
  have e1 : Rb40Neutral.asked1 [[2, a, b, c, d]] = (Rb40Neutral.between a 0 5000 && (Rb40Neutral.between b 1 5000 && (Rb40Neutral.between c 1 5000 && (Rb40Neutral.between d 1 5000 && decide (a * d < c * b))))) := rfl
  rw [e1] at h
  simp only [Bool.and_eq_true, decide_eq_true_eq] at h
  have l := h.1.1.2.2.2.2
  obtain ⟨a, rfl⟩ := Int.eq_ofNat_of_zero_le a0
  obtain ⟨b, rfl⟩ := Int.eq_ofNat_of_zero_le (show 0 ≤ b by omega)
  obtain ⟨c, rfl⟩ := Int.eq_ofNat_of_zero_le (show 0 ≤ c by omega)
  obtain ⟨d, rfl⟩ := Int.eq_ofNat_of_zero_le (show 0 ≤ d by omega)
  simp only [Int.toNat_natCast]
  exact_mod_cast l
section
open PySem.Calls PyProof.Rows
variable {prog : Program} {w : World} {A : Around} {E : Value → Shared → Prop} {s : Shared} {x y : Int} {t u : Tok} {Q : Value → Shared → Prop}
theorem step_div (hy : 0 < y) (hs : y ≤ 100000) (h : Q (.int (Int.fdiv x y) s.toks) { s with toks := s.toks + 1 }) :
    wpAny (model prog w) A (binaryOp .FloorDiv (.int x t) (.int y u)) Q E s :=
  PyProof.Rows.floordiv_int (by omega) h (Or.inl (PyProof.noPylong_small (by omega)))
theorem step_mul (lo : -100000 ≤ y) (hi : y ≤ 100000) (h : Q (.int (x * y) s.toks) { s with toks := s.toks + 1 }) :
    wpAny (model prog w) A (binaryOp .Mult (.int x t) (.int y u)) Q E s :=
  PyProof.Rows.mul_int h (PySem.IntMulOk.of_right (PySem.intBits_le_64 (by omega) (by omega)))
end
end S03
open PySem PySem.W PyProof.Rows
local macro_rules | `(tactic| walk_at "binaryOp FloorDiv int int") => `(tactic| (k_here; (with_reducible refine' S03.step_div ?k1 ?k2 ?_); (case k1 => k_dflt omega); (case k2 => k_dflt omega)))
local macro_rules | `(tactic| walk_at "binaryOp Mult int int") => `(tactic| (k_here; (with_reducible refine' S03.step_mul ?k1 ?k2 ?_); (case k1 => k_dflt omega); (case k2 => k_dflt omega)))
set_option maxRecDepth 100000 in
set_option maxHeartbeats 8000000 in
theorem PySem.Challenge.cw_turnstree_s03_between_holds : PySem.Challenge.rw_turnstree_s03_between.Holds := by
  k_with "tree" => (unfold S03.la; rfl)
  k_with "call ref" => k_call_by "least_above" S03.la (fun (a b l : Int) => 0 ≤ a ∧ a ≤ 5000 ∧ 1 ≤ b ∧ b ≤ 5000 ∧ 1 ≤ l ∧ l ≤ 10001)
  k_with "state" => first
    | exact S03.startC (by assumption) (by omega) (by omega) (by omega) (by omega) (by omega) (by omega)
    | exact S03.turnC (by assumption) (by omega) (by omega) (by omega) (by omega) (by omega) (by omega) (by omega) (by omega) (by omega) (by omega)
  k_with "exec While Compare cons nil" => k_while_given ["a", "b", "c", "d"] (fun a b c d _ u l => 1 ≤ u ∧ u ≤ 50005001 ∧ 1 ≤ l ∧ l ≤ b + d ∧ S03.Inv a b c d u l) (fun _ b _ d _ _ l => (b + d + 1 - l).toNat) "upper_number" "lower_number"
  open_ks0 with [.int 0, .int 1, .int 1, .int 1]
  have noInts : IntsAre ([] : List Value) ([] : List Int) := IntsAre.nil
  with_reducible rename OpenSpec.pre _ _ = true => osPre
  obtain ⟨h1, h2⟩ := Req.dec_cons (os_pre_isSome osPre)
  obtain ⟨h2, h3⟩ := Req.dec_cons h2
  obtain ⟨h3, h4⟩ := Req.dec_cons h3
  obtain ⟨e1, lo1, hi1⟩ := Req.dec_int h1
  obtain ⟨e2, lo2, hi2⟩ := Req.dec_int h2
  obtain ⟨e3, lo3, hi3⟩ := Req.dec_int h3
  obtain ⟨e4, lo4, hi4⟩ := Req.dec_int h4
  have lo1 : (0 : Int) ≤ _ := lo1
  have hi1 : _ ≤ (5000 : Int) := hi1
  have lo2 : (1 : Int) ≤ _ := lo2
  have hi2 : _ ≤ (5000 : Int) := hi2
  have lo3 : (1 : Int) ≤ _ := lo3
  have hi3 : _ ≤ (5000 : Int) := hi3
  have lo4 : (1 : Int) ≤ _ := lo4
  have hi4 : _ ≤ (5000 : Int) := hi4
  have osAsked := os_pre_asked osPre (Req.dec_join e1 (Req.dec_join e2 (Req.dec_join e3 e4)))
  have osLt := S03.asked_lt lo1 lo2 lo3 lo4 osAsked
  clear osAsked
  ks_steps
  refine os_post (Req.dec_join e1 (Req.dec_join e2 (Req.dec_join e3 e4))) ?_
  refine Req.same3 ?_
  have fin : [0, _, _] = PyRb40.between _ _ _ _ := S03.wholeC (by assumption) (by omega) (by omega) (by omega) (by omega) (by omega) (by omega) (by omega)
  exact fin
#print axioms PySem.Challenge.cw_turnstree_s03_between_holds
