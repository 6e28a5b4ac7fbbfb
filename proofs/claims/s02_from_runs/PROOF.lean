import PyProof.Rows.All
import KE.OsGo
import KE.OsMore
import PySem.Challenge.RW_turnstree_s02_from_runs
open PySem PySem.W
set_option Elab.async false
namespace Req
theorem dec_cons {c : Codec} {cs : List Codec} {d : WData} {ds : List WData} (h : (Codec.decAll (c :: cs) (d :: ds)).isSome = true) :
    (Codec.decAll [c] [d]).isSome = true ∧ (Codec.decAll cs ds).isSome = true := by
  have e : Codec.decAll (c :: cs) (d :: ds) = Codec.both Prod.mk (c.dec d) (Codec.decAll cs ds) := rfl
  have e1 : Codec.decAll [c] [d] = Codec.both Prod.mk (c.dec d) (some ()) := rfl
  rw [e] at h
  rw [e1]
  cases h1 : c.dec d with
  | none =>
    rw [h1] at h
    cases h
  | some a =>
    cases h2 : Codec.decAll cs ds with
    | none =>
      rw [h1, h2] at h
      cases h
    | some r => exact ⟨rfl, rfl⟩
theorem dec_join {c : Codec} {cs : List Codec} {d : WData} {ds : List WData} {a : c.denote} {r : Codec.denoteAll cs} (h1 : Codec.decAll [c] [d] = some (a, ())) (h2 : Codec.decAll cs ds = some r) :
    Codec.decAll (c :: cs) (d :: ds) = some (a, r) := by
  have e : Codec.decAll (c :: cs) (d :: ds) = Codec.both Prod.mk (c.dec d) (Codec.decAll cs ds) := rfl
  have e1 : Codec.decAll [c] [d] = Codec.both Prod.mk (c.dec d) (some ()) := rfl
  rw [e1] at h1
  rw [e, h2]
  cases h3 : c.dec d with
  | none =>
    rw [h3] at h1
    cases h1
  | some b =>
    rw [h3] at h1
    cases h1
    rfl
theorem dec_int {lo hi k : Int} (h : (Codec.decAll [.int lo hi] [WData.int k]).isSome = true) : Codec.decAll [.int lo hi] [WData.int k] = some (k, ()) ∧ lo ≤ k ∧ k ≤ hi := by
  have e : Codec.decAll [.int lo hi] [WData.int k] = Codec.both Prod.mk (if Codec.inInt lo hi k = true then some k else none) (some ()) := rfl
  rw [e] at h ⊢
  cases h1 : Codec.inInt lo hi k with
  | false =>
    rw [h1] at h
    cases h
  | true =>
    unfold Codec.inInt at h1
    simp only [Bool.and_eq_true, decide_eq_true_eq] at h1
    exact ⟨rfl, h1.1, h1.2⟩
theorem same_list {l k : List Int} (h : l = k) : same (WData.list (ofPys (l.map PyData.int))) (WData.list (k.map WData.int)) = true := by
  subst h
  rw [ofPys_ints]
  exact same_self _
end Req
namespace S02
open Rb40

theorem reached_right (L : List Bool) : ∀ v : Nat, reached (List.replicate v true ++ L) = ((reached L).1 + v * (reached L).2, (reached L).2)
  | 0 => by simp
  | v + 1 => by
    rw [List.replicate_succ, List.cons_append, reached]
    simp only [reached_right L v, if_true, Prod.mk.injEq, and_true]
    rw [Nat.add_mul]
    omega
theorem reached_left (L : List Bool) : ∀ v : Nat, reached (List.replicate v false ++ L) = ((reached L).1, (reached L).2 + v * (reached L).1)
  | 0 => by simp
  | v + 1 => by
    rw [List.replicate_succ, List.cons_append, reached]
    simp only [reached_left L v, Bool.false_eq_true, if_false, Prod.mk.injEq, true_and]
    rw [Nat.add_mul]
    omega
/-- Where the runs from the place i on lead. -/
def at_ (xs : List Int) (i : Nat) : Nat × Nat := reached (turnsOf (i % 2 == 0) (Rb40Neutral.nats (xs.drop i)))
theorem at_end (xs : List Int) : at_ xs xs.length = (1, 1) := by
  unfold at_
  rw [List.drop_length]
  rfl
theorem at_turns {xs : List Int} {i : Nat} (h : i < xs.length) : at_ xs i = reached (List.replicate (xs.getD i 0).toNat (i % 2 == 0) ++ turnsOf ((i + 1) % 2 == 0) (Rb40Neutral.nats (xs.drop (i + 1)))) := by
  unfold at_
  rw [List.drop_eq_getElem_cons h]
  have e : xs.getD i 0 = xs[i] := by simp [List.getD, h]
  rw [e]
  have f : (!(i % 2 == 0)) = ((i + 1) % 2 == 0) := by
    rcases (by omega : i % 2 = 0 ∨ i % 2 = 1) with h | h
    · rw [h, show (i + 1) % 2 = 1 by omega]; rfl
    · rw [h, show (i + 1) % 2 = 0 by omega]; rfl
  rw [← f]
  rfl
theorem at_even {xs : List Int} {i : Nat} (h : i < xs.length) (e : i % 2 = 0) : at_ xs i = ((at_ xs (i + 1)).1 + (xs.getD i 0).toNat * (at_ xs (i + 1)).2, (at_ xs (i + 1)).2) := by
  rw [at_turns h, e]
  exact reached_right _ _
theorem at_odd {xs : List Int} {i : Nat} (h : i < xs.length) (e : i % 2 = 1) : at_ xs i = ((at_ xs (i + 1)).1, (at_ xs (i + 1)).2 + (xs.getD i 0).toNat * (at_ xs (i + 1)).1) := by
  rw [at_turns h, e]
  exact reached_left _ _
/-- The word: m places taken from the end; the items are 0 or more. -/
structure Word (xs : List Int) (m : Nat) (u l : Int) : Prop where
  le : m ≤ xs.length
  items : ∀ x ∈ xs, 0 ≤ x ∧ x ≤ 5000
  up : u = ((at_ xs (xs.length - m)).1 : Int)
  low : l = ((at_ xs (xs.length - m)).2 : Int)
theorem start {xs : List Int} (h : ∀ x ∈ xs, 0 ≤ x ∧ x ≤ 5000) : Word xs ([] : List Int).length 1 1 := by
  refine ⟨Nat.zero_le _, h, ?_, ?_⟩
  · show (1 : Int) = ((at_ xs (xs.length - 0)).1 : Int)
    rw [Nat.sub_zero, at_end]; rfl
  · show (1 : Int) = ((at_ xs (xs.length - 0)).2 : Int)
    rw [Nat.sub_zero, at_end]; rfl
theorem item {xs : List Int} (h : ∀ x ∈ xs, 0 ≤ x ∧ x ≤ 5000) (i : Nat) : 0 ≤ xs.getD i 0 ∧ xs.getD i 0 ≤ 5000 := by
  by_cases hi : i < xs.length
  · have e : xs.getD i 0 = xs[i] := by simp [List.getD, hi]
    rw [e]
    exact h _ (List.getElem_mem hi)
  · have e : xs.getD i 0 = 0 := by simp [List.getD, hi]
    rw [e]
    omega
theorem place {xs pre : List Int} {k : Int} (hk : k = (xs.length : Int) - 1 - (pre.length : Int)) (hl : pre.length < xs.length) :
    k.toNat < xs.length ∧ k.toNat + 1 = xs.length - pre.length ∧ k.toNat = xs.length - (pre ++ [k]).length ∧ (pre ++ [k]).length ≤ xs.length ∧ (k.toNat : Int) = k := by
  simp only [List.length_append, List.length_singleton]
  omega
theorem even {xs pre : List Int} {u l k : Int} (W : Word xs pre.length u l) (hk : k = (xs.length : Int) - 1 - (pre.length : Int)) (hl : pre.length < xs.length) (he : Int.fmod k 2 = 0) :
    Word xs (pre ++ [k]).length (u + xs.getD k.toNat 0 * l) l := by
  obtain ⟨p1, p2, p3, p4, p5⟩ := place hk hl
  obtain ⟨_, it, hu, hw⟩ := W
  have i0 := (item it k.toNat).1
  have e2 : k.toNat % 2 = 0 := by
    rw [Int.fmod_eq_emod_of_nonneg _ (by decide)] at he
    omega
  have E := at_even p1 e2
  rw [p2] at E
  refine ⟨p4, it, ?_, ?_⟩
  · rw [← p3, E]
    simp only [Int.natCast_add, Int.natCast_mul, Int.toNat_of_nonneg i0]
    rw [← hu, ← hw]
  · rw [← p3, E]
    exact hw
theorem odd {xs pre : List Int} {u l k : Int} (W : Word xs pre.length u l) (hk : k = (xs.length : Int) - 1 - (pre.length : Int)) (hl : pre.length < xs.length) (he : ¬ Int.fmod k 2 = 0) :
    Word xs (pre ++ [k]).length u (l + xs.getD k.toNat 0 * u) := by
  obtain ⟨p1, p2, p3, p4, p5⟩ := place hk hl
  obtain ⟨_, it, hu, hw⟩ := W
  have i0 := (item it k.toNat).1
  have e2 : k.toNat % 2 = 1 := by
    rw [Int.fmod_eq_emod_of_nonneg _ (by decide)] at he
    omega
  have E := at_odd p1 e2
  rw [p2] at E
  refine ⟨p4, it, ?_, ?_⟩
  · rw [← p3, E]
    exact hu
  · rw [← p3, E]
    simp only [Int.natCast_add, Int.natCast_mul, Int.toNat_of_nonneg i0]
    rw [← hu, ← hw]
theorem whole {xs : List Int} {m : Nat} {u l : Int} (W : Word xs m u l) (hm : m = xs.length) : [0, u, l] = PyRb40.from_runs xs := by
  obtain ⟨_, _, hu, hw⟩ := W
  rw [hm, Nat.sub_self] at hu hw
  show _ = [0, ((reached (turnsOf true (Rb40Neutral.nats xs))).1 : Int), ((reached (turnsOf true (Rb40Neutral.nats xs))).2 : Int)]
  rw [hu, hw]
  rfl
end S02
namespace S02
section
open PySem.Calls PyProof.Rows
variable {prog : Program} {w : World} {A : Around} {E : Value → Shared → Prop} {s : Shared} {x y : Int} {t u : Tok} {Q : Value → Shared → Prop}
theorem step_mul (b : 0 ≤ x ∧ x ≤ 5000) (h : Q (.int (x * y) s.toks) { s with toks := s.toks + 1 }) :
    wpAny (model prog w) A (binaryOp .Mult (.int x t) (.int y u)) Q E s :=
  PyProof.Rows.mul_int h (PySem.IntMulOk.of_left (PySem.intBits_le_64 (by omega) (by omega)))
end
end S02
open PySem PySem.W PyProof.Rows
local macro_rules | `(tactic| walk_at "binaryOp Mult int int") => `(tactic| (k_here; (with_reducible refine' S02.step_mul ?k1 ?_); (case k1 => k_dflt (exact S02.item (by assumption) _))))
example : List Int → List Int → Int → Int → Prop := fun xs pre u l => S02.Word xs pre.length u l
set_option maxRecDepth 100000 in
set_option maxHeartbeats 8000000 in
theorem PySem.Challenge.cw_turnstree_s02_from_runs_holds : PySem.Challenge.rw_turnstree_s02_from_runs.Holds := by
  k_with "state" => first
    | exact S02.start (by assumption)
    | exact S02.even (by assumption) (by omega) (by omega) (by omega)
    | exact S02.odd (by assumption) (by omega) (by omega) (by omega)
  k_with "pyIter ref" => k_state (fun pre u l => S02.Word ns pre.length u l) "upper_number" "lower_number"
  open_ks0
  with_reducible rename OpenSpec.pre _ _ = true => osPre
  rename (List Int) => ns
  obtain ⟨osDec, osLeast, osMost, osItems⟩ := os_dec_ints (os_pre_isSome osPre)
  have osIt : ∀ x ∈ ns, (0 : Int) ≤ x ∧ x ≤ 5000 := osItems
  clear osItems
  ks_steps
  refine os_post osDec ?_
  refine os_same_list ?_
  have fin := S02.whole kInv (by rw [downKs_length]; omega)
  exact congrArg (List.map PyData.int) fin
#print axioms PySem.Challenge.cw_turnstree_s02_from_runs_holds
