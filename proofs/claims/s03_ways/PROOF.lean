import PyProof.Rows.All
import Wide.All
import OpenK.AllK
import Wide.FinOn
import PyProof.EqAt
import PyProof.EqKinds
import PyProof.TupleCall
import Open.SpecLaws
import KE.OsGo
import HandS.ForSpec
import HandS.Comp
import HandS.Iter
import HandS.Walk
import HandS.SortRule
import HandS.Deep
import PySem.Challenge.RW_graphstogether_s03_ways
set_option Elab.async false
set_option maxRecDepth 100000
set_option maxHeartbeats 2000000
namespace Gt
/-! ### plain functions of the program -/
def prs : List Int → List (Int × Int)
  | u :: v :: l => (u, v) :: prs l
  | _ => []
def ltB (p q : Int × Int) : Bool := if p.1 = q.1 then decide (p.2 < q.2) else decide (p.1 < q.1)
def rise : List (Int × Int) → Bool
  | p :: q :: r => ltB p q && rise (q :: r)
  | _ => true
def isG (n : Int) (l : List Int) : Bool :=
  if n < 1 ∨ 5 < n ∨ l.length % 2 ≠ 0 then false else (l.all fun x => decide (x < n)) && rise (prs l)
def flat (ps : List (Int × Int)) : List Int := ps.flatMap fun p => [p.1, p.2]
def told (n : Int) (ps : List (Int × Int)) : List Int := n :: (ps.length : Int) :: flat ps
def shift (n : Int) (p : Int × Int) : Int × Int := (n + p.1, n + p.2)
def besideM (n m : Int) (f s : List Int) : List Int :=
  if (isG n f && isG m s) = true then told (n + m) (prs f ++ (prs s).map (shift n)) else [-22]
def tn (p : Int × Int) : Nat × Nat := (p.1.toNat, p.2.toNat)
def ti (p : Nat × Nat) : Int × Int := ((p.1 : Int), (p.2 : Int))

theorem ltB_iff {p q : Int × Int} : ltB p q = true ↔ p.1 < q.1 ∨ (p.1 = q.1 ∧ p.2 < q.2) := by
  unfold ltB
  split <;> simp <;> omega
theorem prs_nn : ∀ (l : List Int), (∀ x ∈ l, 0 ≤ x) → ∀ p ∈ prs l, 0 ≤ p.1 ∧ 0 ≤ p.2
  | [], _, p, h => by simp [prs] at h
  | [_], _, p, h => by simp [prs] at h
  | u :: v :: l, hl, p, h => by
    simp only [prs, List.mem_cons] at h
    rcases h with rfl | h
    · exact ⟨hl u (by simp), hl v (by simp)⟩
    · exact prs_nn l (fun x hx => hl x (by simp [hx])) p h
theorem prs_lt {n : Int} : ∀ (l : List Int), (∀ x ∈ l, x < n) → ∀ p ∈ prs l, p.1 < n ∧ p.2 < n
  | [], _, p, h => by simp [prs] at h
  | [_], _, p, h => by simp [prs] at h
  | u :: v :: l, hl, p, h => by
    simp only [prs, List.mem_cons] at h
    rcases h with rfl | h
    · exact ⟨hl u (by simp), hl v (by simp)⟩
    · exact prs_lt l (fun x hx => hl x (by simp [hx])) p h
theorem prs_len : ∀ (l : List Int), (prs l).length = l.length / 2
  | [] => rfl
  | [_] => by simp [prs]
  | u :: v :: l => by
    simp only [prs, List.length_cons, prs_len l]
    omega
theorem tn_lt {n u : Int} (hn : 0 ≤ n) (hu : 0 ≤ u) : n.toNat ≤ u.toNat ↔ n ≤ u := by omega

theorem pairsOf_eq {n : Int} (hn : 0 ≤ n) : ∀ (l : List Int), (∀ x ∈ l, 0 ≤ x) →
    Ks547.pairsOf n.toNat (l.map Int.toNat) = if (l.length % 2 = 0 ∧ (∀ x ∈ l, x < n) ∧ rise (prs l) = true) then some ((prs l).map tn) else none
  | [], _ => by simp [Ks547.pairsOf, prs, rise]
  | [x], _ => by simp [Ks547.pairsOf]
  | u :: v :: l, h => by
    have hu : 0 ≤ u := h u (by simp)
    have hv : 0 ≤ v := h v (by simp)
    have hl : ∀ x ∈ l, 0 ≤ x := fun x hx => h x (by simp [hx])
    have ih := pairsOf_eq hn l hl
    simp only [List.map_cons, Ks547.pairsOf, tn_lt hn hu, tn_lt hn hv, ih]
    by_cases c1 : n ≤ u ∨ n ≤ v
    · rw [if_pos c1, if_neg]
      rintro ⟨_, h2, _⟩
      have a := h2 u (by simp)
      have b := h2 v (by simp)
      omega
    · rw [if_neg c1]
      by_cases c2 : (l.length % 2 = 0 ∧ (∀ x ∈ l, x < n) ∧ rise (prs l) = true)
      · rw [if_pos c2]
        obtain ⟨d1, d2, d3⟩ := c2
        have e1 : (u :: v :: l).length % 2 = 0 := by
          simp only [List.length_cons]
          omega
        have e2 : ∀ x ∈ u :: v :: l, x < n := by
          intro x hx
          simp only [List.mem_cons] at hx
          rcases hx with rfl | rfl | hx
          · omega
          · omega
          · exact d2 x hx
        have nn := prs_nn l hl
        cases hp : prs l with
        | nil =>
          simp only [List.map_nil]
          rw [if_pos ⟨e1, e2, by simp [prs, hp, rise]⟩]
          simp [prs, hp, tn]
        | cons p r =>
          have pn := nn p (by simp [hp])
          simp only [List.map_cons, tn]
          rw [hp] at d3
          have ec : (u.toNat < p.1.toNat ∨ (u.toNat = p.1.toNat ∧ v.toNat < p.2.toNat)) ↔ ltB (u, v) p = true := by
            rw [ltB_iff]
            simp only
            omega
          by_cases c3 : ltB (u, v) p = true
          · rw [if_pos (ec.mpr c3), if_pos ⟨e1, e2, by simp [prs, hp, rise, c3, d3]⟩]
            simp [prs, hp, tn]
          · rw [if_neg (fun z => c3 (ec.mp z)), if_neg]
            rintro ⟨_, _, h3⟩
            simp only [prs, hp, rise, Bool.and_eq_true] at h3
            exact c3 h3.1
      · rw [if_neg c2, if_neg]
        rintro ⟨h1, h2, h3⟩
        refine c2 ⟨?_, fun x hx => h2 x (by simp [hx]), ?_⟩
        · simp only [List.length_cons] at h1
          omega
        · simp only [prs] at h3
          cases hp : prs l with
          | nil => rfl
          | cons p r =>
            rw [hp] at h3
            simp only [rise, Bool.and_eq_true] at h3
            exact h3.2

theorem isG_iff {n : Int} {l : List Int} : isG n l = true ↔ (1 ≤ n ∧ n ≤ 5) ∧ l.length % 2 = 0 ∧ (∀ x ∈ l, x < n) ∧ rise (prs l) = true := by
  unfold isG
  split
  · rename_i h
    simp only [Bool.false_eq_true, false_iff]
    rintro ⟨⟨_, _⟩, _, _⟩
    omega
  · rename_i h
    simp only [Bool.and_eq_true, List.all_eq_true, decide_eq_true_eq]
    constructor
    · rintro ⟨a, b⟩
      exact ⟨by omega, by omega, a, b⟩
    · rintro ⟨_, _, a, b⟩
      exact ⟨a, b⟩
def mkG (n : Int) (l : List Int) : Ks547.Graph := ⟨n.toNat, (prs l).map tn⟩
theorem graphOf_eq {n : Int} {l : List Int} (hn : 0 ≤ n) (hl : ∀ x ∈ l, 0 ≤ x) :
    Ks547.graphOf n.toNat (l.map Int.toNat) = if isG n l = true then some (mkG n l) else none := by
  unfold Ks547.graphOf
  rw [pairsOf_eq hn l hl]
  by_cases c : n.toNat < 1 ∨ Ks547.PLACES < n.toNat
  · rw [if_pos c, if_neg]
    intro z
    have := (isG_iff.mp z).1
    unfold Ks547.PLACES at c
    omega
  · rw [if_neg c]
    unfold Ks547.PLACES at c
    by_cases d : (l.length % 2 = 0 ∧ (∀ x ∈ l, x < n) ∧ rise (prs l) = true)
    · rw [if_pos d, if_pos (isG_iff.mpr ⟨by omega, d⟩)]
      rfl
    · rw [if_neg d, if_neg (fun z => d (isG_iff.mp z).2)]
      rfl
theorem tell_out (n : Nat) (ps : List (Nat × Nat)) : Ks549Neutral.out (Ks549.tell ⟨n, ps⟩) = told n (ps.map ti) := by
  unfold Ks549Neutral.out Ks549.tell told flat
  simp only [List.map_cons, List.length_map]
  congr 2
  induction ps with
  | nil => rfl
  | cons p r ih =>
    simp only [List.flatMap_cons, List.map_append, List.map_cons, ih]
    rfl
theorem ti_tn {ps : List (Int × Int)} (h : ∀ p ∈ ps, 0 ≤ p.1 ∧ 0 ≤ p.2) : (ps.map tn).map ti = ps := by
  rw [List.map_map]
  have : ps.map (ti ∘ tn) = ps.map id := by
    refine List.map_congr_left fun p hp => ?_
    have := h p hp
    show ((p.1.toNat : Int), (p.2.toNat : Int)) = p
    rw [Int.toNat_of_nonneg this.1, Int.toNat_of_nonneg this.2]
  rw [this, List.map_id]
theorem two_eq {n m : Int} {f s : List Int} (hn : 0 ≤ n) (hm : 0 ≤ m) (hf : ∀ x ∈ f, 0 ≤ x) (hs : ∀ x ∈ s, 0 ≤ x) (k : Ks547.Graph → Ks547.Graph → Ks547.Ans) :
    Ks547.two n.toNat m.toNat (f.map Int.toNat) (s.map Int.toNat) k = if (isG n f && isG m s) = true then k (mkG n f) (mkG m s) else Ks547.no (-22) := by
  unfold Ks547.two Ks547.graph
  rw [graphOf_eq hn hf]
  by_cases a : isG n f = true
  · simp only [graphOf_eq hm hs, a, Bool.true_and, if_true]
    by_cases b : isG m s = true
    · simp only [if_pos b]
    · simp only [if_neg b]
  · simp only [if_neg a]
    rw [if_neg]
    simp [a]
theorem beside_eq {n m : Int} {f s : List Int} (hn : 0 ≤ n) (hm : 0 ≤ m) (hf : ∀ x ∈ f, 0 ≤ x) (hs : ∀ x ∈ s, 0 ≤ x) : PyKs549.beside n m f s = besideM n m f s := by
  show Ks549Neutral.out (Ks547.two n.toNat m.toNat (f.map Int.toNat) (s.map Int.toNat) fun g h => Ks549.tell (Ks549.beside g h)) = _
  rw [two_eq hn hm hf hs]
  unfold besideM
  split
  · unfold Ks549.beside
    rw [tell_out]
    congr 1
    · show ((n.toNat + m.toNat : Nat) : Int) = n + m
      omega
    · show ((prs f).map tn ++ ((prs s).map tn).map fun p => (n.toNat + p.1, n.toNat + p.2)).map ti = _
      rw [List.map_append, ti_tn (prs_nn f hf)]
      congr 1
      rw [List.map_map, List.map_map]
      refine List.map_congr_left fun p hp => ?_
      have := prs_nn s hs p hp
      show (((n.toNat + p.1.toNat : Nat) : Int), ((n.toNat + p.2.toNat : Nat) : Int)) = (n + p.1, n + p.2)
      congr 1 <;> omega
  · rfl
end Gt
namespace Gt
theorem nt1 {b : Bool} (h : (!b) = true) : b = false := by
  cases b with
  | false => rfl
  | true => cases h
theorem nt2 {b : Bool} (h : ¬ (!b) = true) : b = true := by
  cases b with
  | true => rfl
  | false => exact absurd rfl h
end Gt
namespace Gt
/-! ### rising lists of pairs -/
theorem ltB_trans {p q r : Int × Int} (a : ltB p q = true) (b : ltB q r = true) : ltB p r = true := by
  rw [ltB_iff] at *
  omega
theorem rise_pw : ∀ {l : List (Int × Int)}, rise l = true → l.Pairwise (fun p q => ltB p q = true)
  | [], _ => .nil
  | [_], _ => List.pairwise_singleton ..
  | p :: q :: r, h => by
    simp only [rise, Bool.and_eq_true] at h
    have ih := rise_pw h.2
    refine List.pairwise_cons.mpr ⟨fun x hx => ?_, ih⟩
    rcases List.mem_cons.mp hx with rfl | hx
    · exact h.1
    · exact ltB_trans h.1 ((List.pairwise_cons.mp ih).1 x hx)
theorem pw_nd {l : List (Int × Int)} (h : l.Pairwise (fun p q => ltB p q = true)) : l.Nodup := by
  refine h.imp fun {p q} a e => ?_
  subst e
  rw [ltB_iff] at a
  omega
theorem pw_le {l : List (Int × Int)} (h : l.Pairwise (fun p q => ltB p q = true)) : l.Pairwise (fun p q => ltB q p = false) := by
  refine h.imp fun {p q} a => ?_
  cases e : ltB q p with
  | false => rfl
  | true =>
    rw [ltB_iff] at a e
    omega
theorem le_anti {p q : Int × Int} (a : ltB q p = false) (b : ltB p q = false) : p = q := by
  have a' : ¬ ltB q p = true := by rw [a]; decide
  have b' : ¬ ltB p q = true := by rw [b]; decide
  rw [ltB_iff] at a' b'
  apply Prod.ext <;> omega
/-- two rising rearrangements are one -/
theorem one_of {l r : List (Int × Int)} (h1 : l.Pairwise (fun p q => ltB q p = false)) (h2 : r.Pairwise (fun p q => ltB q p = false)) (p : l.Perm r) : l = r :=
  p.eq_of_pairwise (fun _ _ _ _ a b => le_anti a b) h1 h2
/-! ### make -/
theorem make_mem {N : Nat} {F : Nat → Nat → Bool} {a b : Nat} : (a, b) ∈ (Ks549.make N F).arrows ↔ a < N ∧ b < N ∧ F a b = true := by
  unfold Ks549.make
  simp only [List.mem_flatMap, List.mem_map, List.mem_filter, List.mem_range, Prod.mk.injEq]
  constructor
  · rintro ⟨u, hu, v, ⟨hv, hf⟩, rfl, rfl⟩
    exact ⟨hu, hv, hf⟩
  · rintro ⟨hu, hv, hf⟩
    exact ⟨a, hu, b, ⟨hv, hf⟩, rfl, rfl⟩
theorem make_pw {N : Nat} {F : Nat → Nat → Bool} : ((Ks549.make N F).arrows.map ti).Pairwise (fun p q => ltB p q = true) := by
  rw [List.pairwise_map]
  unfold Ks549.make
  simp only
  rw [List.pairwise_flatMap]
  refine ⟨fun u _ => ?_, List.pairwise_lt_range.imp fun {u v} huv x hx y hy => ?_⟩
  · rw [List.pairwise_map]
    refine (List.pairwise_lt_range.filter _).imp fun {v w} hvw => ?_
    rw [ltB_iff]
    exact .inr ⟨rfl, Int.ofNat_lt.mpr hvw⟩
  · simp only [List.mem_map] at hx hy
    obtain ⟨_, _, rfl⟩ := hx
    obtain ⟨_, _, rfl⟩ := hy
    rw [ltB_iff]
    simp only [ti]
    omega
theorem make_le {N : Nat} {F : Nat → Nat → Bool} : ((Ks549.make N F).arrows.map ti).Pairwise (fun p q => ltB q p = false) := pw_le make_pw
theorem make_nd {N : Nat} {F : Nat → Nat → Bool} : ((Ks549.make N F).arrows.map ti).Nodup := pw_nd make_pw
/-- a list without doubles that has what make has, and rises -/
theorem make_is {N : Nat} {F : Nat → Nat → Bool} {l ys : List (Int × Int)} (nd : l.Nodup) (hm : ∀ p, p ∈ l ↔ ∃ a b : Nat, p = ((a : Int), (b : Int)) ∧ a < N ∧ b < N ∧ F a b = true)
    (hp : ys.Perm l) (hs : ys.Pairwise (fun p q => ltB q p = false)) : (Ks549.make N F).arrows.map ti = ys := by
  refine one_of make_le hs (List.Perm.trans ?_ hp.symm)
  rw [List.perm_ext_iff_of_nodup make_nd nd]
  intro p
  rw [hm, List.mem_map]
  constructor
  · rintro ⟨⟨a, b⟩, h, rfl⟩
    exact ⟨a, b, rfl, make_mem.mp h⟩
  · rintro ⟨a, b, rfl, h⟩
    exact ⟨(a, b), make_mem.mpr h, rfl⟩
/-! ### both -/
def pairUp (m : Int) (p q : Int × Int) : Int × Int := (p.1 * m + q.1, p.2 * m + q.2)
def prod (m : Int) (A B : List (Int × Int)) : List (Int × Int) := A.flatMap fun p => B.map (pairUp m p)
theorem part {m a b c d : Int} (h : a * m + b = c * m + d) (hb : 0 ≤ b ∧ b < m) (hd : 0 ≤ d ∧ d < m) : a = c ∧ b = d := by
  have hm : 0 < m := by omega
  have e1 : (a * m + b) / m = a := by
    rw [Int.add_comm, Int.add_mul_ediv_right _ _ (by omega), Int.ediv_eq_zero_of_lt hb.1 hb.2, Int.zero_add]
  have e2 : (c * m + d) / m = c := by
    rw [Int.add_comm, Int.add_mul_ediv_right _ _ (by omega), Int.ediv_eq_zero_of_lt hd.1 hd.2, Int.zero_add]
  have e : a = c := by rw [← e1, ← e2, h]
  subst e
  exact ⟨rfl, by omega⟩
theorem prod_nd {m : Int} {A B : List (Int × Int)} (hA : A.Nodup) (hB : B.Nodup) (hb : ∀ q ∈ B, (0 ≤ q.1 ∧ q.1 < m) ∧ 0 ≤ q.2 ∧ q.2 < m) : (prod m A B).Nodup := by
  unfold prod List.Nodup
  rw [List.pairwise_flatMap]
  refine ⟨fun p _ => ?_, hA.imp fun {p p'} hne x hx y hy e => ?_⟩
  · rw [List.pairwise_map]
    refine hB.imp_of_mem fun {q q'} hq hq' hne e => hne ?_
    have := Prod.mk.inj e
    exact Prod.ext (part this.1 (hb q hq).1 (hb q' hq').1).2 (part this.2 (hb q hq).2 (hb q' hq').2).2
  · obtain ⟨q, hq, rfl⟩ := List.mem_map.mp hx
    obtain ⟨q', hq', rfl⟩ := List.mem_map.mp hy
    have := Prod.mk.inj e
    exact hne (Prod.ext (part this.1 (hb q hq).1 (hb q' hq').1).1 (part this.2 (hb q hq).2 (hb q' hq').2).1)
theorem mem_prod {m : Int} {A B : List (Int × Int)} {x : Int × Int} : x ∈ prod m A B ↔ ∃ p ∈ A, ∃ q ∈ B, x = pairUp m p q := by
  unfold prod
  simp only [List.mem_flatMap, List.mem_map]
  constructor
  · rintro ⟨p, hp, q, hq, rfl⟩
    exact ⟨p, hp, q, hq, rfl⟩
  · rintro ⟨p, hp, q, hq, rfl⟩
    exact ⟨p, hp, q, hq, rfl⟩
theorem has_mk {n : Int} {l : List Int} {u v : Nat} : Ks547.has (mkG n l) u v = true ↔ ∃ p ∈ prs l, tn p = (u, v) := by
  unfold Ks547.has mkG
  rw [List.contains_iff_mem, List.mem_map]
theorem nat_lt {u v n m : Nat} (hu : u < n) (hv : v < m) : u * m + v < n * m := by
  have h1 : (u + 1) * m ≤ n * m := Nat.mul_le_mul_right m hu
  rw [Nat.succ_mul] at h1
  omega
theorem rng_of {n : Int} {l : List Int} (g : isG n l = true) (hl : ∀ x ∈ l, 0 ≤ x) : ∀ q ∈ prs l, (0 ≤ q.1 ∧ q.1 < n) ∧ 0 ≤ q.2 ∧ q.2 < n := fun q hq => by
  have a := prs_nn l hl q hq
  have b := prs_lt l (isG_iff.mp g).2.2.1 q hq
  omega
theorem nd_of {n : Int} {l : List Int} (g : isG n l = true) : (prs l).Nodup := pw_nd (rise_pw (isG_iff.mp g).2.2.2)
theorem both_eq {n m : Int} {f s : List Int} {ys : List (Int × Int)} (hf : ∀ x ∈ f, 0 ≤ x) (hs : ∀ x ∈ s, 0 ≤ x) (gf : isG n f = true) (gs : isG m s = true)
    (hp : ys.Perm (prod m (prs f) (prs s))) (hy : ys.Pairwise (fun p q => ltB q p = false)) : PyKs549.both n m f s = told (n * m) ys := by
  have n1 := (isG_iff.mp gf).1
  have m1 := (isG_iff.mp gs).1
  have rf := rng_of gf hf
  have rs := rng_of gs hs
  show Ks549Neutral.out (Ks547.two n.toNat m.toNat (f.map Int.toNat) (s.map Int.toNat) fun g h => Ks549.tell (Ks549.both g h)) = _
  rw [two_eq (by omega) (by omega) hf hs, if_pos (by rw [gf, gs]; rfl)]
  unfold Ks549.both
  rw [show Ks549.make ((mkG n f).n * (mkG m s).n) (fun a b => Ks547.has (mkG n f) (a / (mkG m s).n) (b / (mkG m s).n) && Ks547.has (mkG m s) (a % (mkG m s).n) (b % (mkG m s).n)) = ⟨(mkG n f).n * (mkG m s).n, (Ks549.make ((mkG n f).n * (mkG m s).n) (fun a b => Ks547.has (mkG n f) (a / (mkG m s).n) (b / (mkG m s).n) && Ks547.has (mkG m s) (a % (mkG m s).n) (b % (mkG m s).n))).arrows⟩ from rfl, tell_out]
  have ez : (((mkG n f).n * (mkG m s).n : Nat) : Int) = n * m := by
    show ((n.toNat * m.toNat : Nat) : Int) = n * m
    rw [Int.natCast_mul, Int.toNat_of_nonneg (by omega), Int.toNat_of_nonneg (by omega)]
  rw [ez]
  congr 1
  refine make_is (prod_nd (nd_of gf) (nd_of gs) rs) (fun x => ?_) hp hy
  rw [mem_prod]
  show _ ↔ ∃ a b : Nat, x = ((a : Int), (b : Int)) ∧ a < n.toNat * m.toNat ∧ b < n.toNat * m.toNat ∧ (Ks547.has (mkG n f) (a / m.toNat) (b / m.toNat) && Ks547.has (mkG m s) (a % m.toNat) (b % m.toNat)) = true
  simp only [Bool.and_eq_true, has_mk]
  have mm : ((m.toNat : Nat) : Int) = m := Int.toNat_of_nonneg (by omega)
  constructor
  · rintro ⟨p, hp, q, hq, rfl⟩
    have a := rf p hp
    have b := rs q hq
    have z1 : q.1.toNat < m.toNat := by omega
    have z2 : q.2.toNat < m.toNat := by omega
    refine ⟨p.1.toNat * m.toNat + q.1.toNat, p.2.toNat * m.toNat + q.2.toNat, ?_, nat_lt (by omega) z1, nat_lt (by omega) z2, ⟨p, hp, ?_⟩, q, hq, ?_⟩
    · show (p.1 * m + q.1, p.2 * m + q.2) = _
      rw [Int.natCast_add, Int.natCast_add, Int.natCast_mul, Int.natCast_mul, mm, Int.toNat_of_nonneg a.1.1, Int.toNat_of_nonneg a.2.1, Int.toNat_of_nonneg b.1.1, Int.toNat_of_nonneg b.2.1]
    · show (p.1.toNat, p.2.toNat) = _
      rw [Nat.mul_comm, Nat.mul_add_div (by omega), Nat.div_eq_of_lt z1, Nat.add_zero, Nat.mul_comm, Nat.mul_add_div (by omega), Nat.div_eq_of_lt z2, Nat.add_zero]
    · show (q.1.toNat, q.2.toNat) = _
      rw [Nat.mul_comm, Nat.mul_add_mod, Nat.mod_eq_of_lt z1, Nat.mul_comm, Nat.mul_add_mod, Nat.mod_eq_of_lt z2]
  · rintro ⟨a, b, rfl, _, _, ⟨p, hp, ep⟩, q, hq, eq⟩
    refine ⟨p, hp, q, hq, ?_⟩
    have e1 := Prod.mk.inj (show (p.1.toNat, p.2.toNat) = _ from ep)
    have e2 := Prod.mk.inj (show (q.1.toNat, q.2.toNat) = _ from eq)
    have x := rf p hp
    have y := rs q hq
    have d1 := Nat.div_add_mod a m.toNat
    have d2 := Nat.div_add_mod b m.toNat
    rw [← e1.1, ← e2.1] at d1
    rw [← e1.2, ← e2.2] at d2
    show ((a : Int), (b : Int)) = (p.1 * m + q.1, p.2 * m + q.2)
    rw [← d1, ← d2, Int.natCast_add, Int.natCast_add, Int.natCast_mul, Int.natCast_mul, mm, Int.toNat_of_nonneg x.1.1, Int.toNat_of_nonneg x.2.1, Int.toNat_of_nonneg y.1.1, Int.toNat_of_nonneg y.2.1, Int.mul_comm m, Int.mul_comm m]
theorem both_no {n m : Int} {f s : List Int} (hn : 0 ≤ n) (hm : 0 ≤ m) (hf : ∀ x ∈ f, 0 ≤ x) (hs : ∀ x ∈ s, 0 ≤ x) (g : (isG n f && isG m s) = false) : PyKs549.both n m f s = [-22] := by
  show Ks549Neutral.out (Ks547.two n.toNat m.toNat (f.map Int.toNat) (s.map Int.toNat) fun g h => Ks549.tell (Ks549.both g h)) = _
  rw [two_eq hn hm hf hs, if_neg (by rw [g]; decide)]
  rfl
end Gt
namespace Gt
open Ks547 (rows)
/-! ### all ways to give k places one of m -/
theorem rows_len (m : Nat) : ∀ k, (rows m k).length = m ^ k
  | 0 => rfl
  | k + 1 => by
    have h : ∀ l : List Nat, (l.flatMap fun x => (rows m k).map fun r => x :: r).length = l.length * m ^ k := fun l => by
      induction l with
      | nil => simp
      | cons x r ih =>
        rw [List.flatMap_cons, List.length_append, ih, List.length_map, rows_len m k, List.length_cons, Nat.succ_mul, Nat.add_comm]
    show ((List.range m).flatMap _).length = _
    rw [h, List.length_range, Nat.pow_succ, Nat.mul_comm]
theorem rows_mem {m : Nat} : ∀ {k : Nat} {f : List Nat}, f ∈ rows m k ↔ f.length = k ∧ ∀ x ∈ f, x < m
  | 0, f => by
    show f ∈ [[]] ↔ _
    constructor
    · intro h
      simp at h
      subst h
      simp
    · rintro ⟨h, _⟩
      rw [List.length_eq_zero_iff.mp h]
      simp
  | k + 1, f => by
    show f ∈ (List.range m).flatMap _ ↔ _
    simp only [List.mem_flatMap, List.mem_range, List.mem_map]
    constructor
    · rintro ⟨x, hx, r, hr, rfl⟩
      obtain ⟨h1, h2⟩ := rows_mem.mp hr
      refine ⟨by rw [List.length_cons, h1], fun y hy => ?_⟩
      rcases List.mem_cons.mp hy with rfl | hy
      · exact hx
      · exact h2 y hy
    · rintro ⟨h1, h2⟩
      cases f with
      | nil => simp at h1
      | cons x r => exact ⟨x, h2 x (by simp), r, rows_mem.mpr ⟨by simpa using h1, fun y hy => h2 y (by simp [hy])⟩, rfl⟩
/-- the last place goes round first -/
theorem rows_snoc (m : Nat) : ∀ k, rows m (k + 1) = (rows m k).flatMap fun r => (List.range m).map fun x => r ++ [x]
  | 0 => by
    show (List.range m).flatMap (fun x => [[]].map fun r => x :: r) = [[]].flatMap fun r => (List.range m).map fun x => r ++ [x]
    simp only [List.map_cons, List.map_nil, List.flatMap_cons, List.flatMap_nil, List.append_nil, List.nil_append]
    induction List.range m with
    | nil => rfl
    | cons x r ih => rw [List.flatMap_cons, ih, List.map_cons]; rfl
  | k + 1 => by
    show (List.range m).flatMap (fun x => (rows m (k + 1)).map fun r => x :: r) = _
    conv => lhs; rw [rows_snoc m k]
    show _ = ((List.range m).flatMap fun x => (rows m k).map fun r => x :: r).flatMap _
    rw [List.flatMap_assoc]
    congr 1
    funext x
    rw [List.map_flatMap, List.flatMap_map]
    congr 1
    funext r
    rw [List.map_map]
    rfl
/-- two parts -/
theorem rows_add (m : Nat) : ∀ (j k : Nat), rows m (j + k) = (rows m j).flatMap fun r => (rows m k).map fun s => r ++ s
  | 0, k => by
    rw [Nat.zero_add]
    show _ = [[]].flatMap _
    simp
  | j + 1, k => by
    rw [show j + 1 + k = (j + k) + 1 by omega]
    show (List.range m).flatMap (fun x => (rows m (j + k)).map fun r => x :: r) = ((List.range m).flatMap fun x => (rows m j).map fun r => x :: r).flatMap _
    rw [List.flatMap_assoc]
    congr 1
    funext x
    rw [rows_add m j k, List.map_flatMap, List.flatMap_map]
    congr 1
    funext r
    rw [List.map_map]
    rfl
/-- the digits of a, k of them, by m -/
def digits (m : Nat) : Nat → Nat → List Nat
  | 0, _ => []
  | k + 1, a => digits m k (a / m) ++ [a % m]
theorem range_mul (m : Nat) : ∀ n, List.range (n * m) = (List.range n).flatMap fun q => (List.range m).map fun x => q * m + x
  | 0 => by simp
  | n + 1 => by
    rw [Nat.succ_mul, List.range_add, range_mul m n, List.range_succ, List.flatMap_append]
    simp
/-- numbered in order: way a gives the digits of a -/
theorem rows_digits (m : Nat) : ∀ k, rows m k = (List.range (m ^ k)).map (digits m k)
  | 0 => rfl
  | k + 1 => by
    rw [rows_snoc, rows_digits m k, Nat.pow_succ, range_mul, List.map_flatMap, List.flatMap_map]
    congr 1
    funext q
    rw [List.map_map]
    refine List.map_congr_left fun x hx => ?_
    have hx : x < m := List.mem_range.mp hx
    show digits m k q ++ [x] = digits m k ((q * m + x) / m) ++ [(q * m + x) % m]
    rw [Nat.mul_comm, Nat.mul_add_div (by omega), Nat.div_eq_of_lt hx, Nat.add_zero, Nat.mul_add_mod, Nat.mod_eq_of_lt hx]
theorem rows_at {m k a : Nat} (h : a < m ^ k) : (rows m k).getD a [] = digits m k a := by
  rw [rows_digits, List.getD_eq_getElem?_getD, List.getElem?_map, List.getElem?_range h]
  rfl
/-- how many of a product, where the test falls in two -/
theorem prod_count {A B C : Type} {F : A → B → C} {P : C → Bool} {p : A → Bool} {q : B → Bool} (h : ∀ a b, P (F a b) = (p a && q b)) (la : List A) (lb : List B) :
    ((la.flatMap fun a => lb.map (F a)).filter P).length = (la.filter p).length * (lb.filter q).length := by
  induction la with
  | nil => simp
  | cons a r ih =>
    rw [List.flatMap_cons, List.filter_append, List.length_append, ih, List.filter_map, List.length_map]
    cases e : p a with
    | true =>
      rw [List.filter_cons_of_pos e, List.length_cons, Nat.succ_mul, Nat.add_comm]
      congr 2
      exact List.filter_congr fun b _ => by simp [h, e]
    | false =>
      rw [List.filter_cons_of_neg (by rw [e]; decide)]
      rw [List.filter_eq_nil_iff.mpr fun b _ => by simp [h, e]]
      simp
end Gt
namespace Gt
open Ks547 (rows)
/-! ### ways -/
/-- each arrow of A becomes one of T: its begin by the one way, its end by the other -/
def lead (A T : List (Int × Int)) (one other : List Nat) : Bool :=
  A.all fun p => decide ((((one.getD p.1.toNat 0 : Nat) : Int), ((other.getD p.2.toNat 0 : Nat) : Int)) ∈ T)
/-- arrows from way u to ways below j -/
def from_ (R : List (List Nat)) (A T : List (Int × Int)) (u j : Nat) : List (Int × Int) :=
  (((List.range j).filter fun v => lead A T (R.getD u []) (R.getD v [])).map fun v => (u, v)).map ti
/-- arrows from ways below i -/
def btw (R : List (List Nat)) (A T : List (Int × Int)) (i : Nat) : List (Int × Int) :=
  (List.range i).flatMap fun u => from_ R A T u R.length
theorem btw_more (R : List (List Nat)) (A T : List (Int × Int)) (i : Nat) : btw R A T (i + 1) = btw R A T i ++ from_ R A T i R.length := by
  unfold btw
  rw [List.range_succ, List.flatMap_append]
  simp
theorem from_more (R : List (List Nat)) (A T : List (Int × Int)) (u j : Nat) : from_ R A T u (j + 1) = from_ R A T u j ++ if lead A T (R.getD u []) (R.getD j []) = true then [((u : Int), (j : Int))] else [] := by
  unfold from_
  rw [List.range_succ, List.filter_append, List.map_append, List.map_append]
  congr 1
  split
  · rename_i h
    rw [List.filter_cons_of_pos (p := fun v => lead A T (R.getD u []) (R.getD v [])) h]
    rfl
  · rename_i h
    rw [List.filter_cons_of_neg (p := fun v => lead A T (R.getD u []) (R.getD v [])) h]
    rfl
theorem from_len (R : List (List Nat)) (A T : List (Int × Int)) (u j : Nat) : (from_ R A T u j).length ≤ j := by
  unfold from_
  rw [List.length_map, List.length_map]
  exact Nat.le_trans (List.length_filter_le _ _) (by rw [List.length_range]; exact Nat.le_refl _)
theorem btw_len (R : List (List Nat)) (A T : List (Int × Int)) : ∀ i, (btw R A T i).length ≤ i * R.length
  | 0 => by simp [btw]
  | i + 1 => by
    rw [btw_more, List.length_append, Nat.succ_mul]
    exact Nat.add_le_add (btw_len R A T i) (from_len R A T i R.length)
theorem has_in {m : Int} {s : List Int} (hs : ∀ x ∈ s, 0 ≤ x) (x y : Nat) : Ks547.has (mkG m s) x y = decide (((x : Int), (y : Int)) ∈ prs s) := by
  rw [Bool.eq_iff_iff, has_mk, decide_eq_true_iff]
  constructor
  · rintro ⟨p, hp, e⟩
    have e1 := Prod.mk.inj (show (p.1.toNat, p.2.toNat) = _ from e)
    have z := prs_nn s hs p hp
    have : p = ((x : Int), (y : Int)) := by
      apply Prod.ext
      · show p.1 = (x : Int)
        omega
      · show p.2 = (y : Int)
        omega
    exact this ▸ hp
  · intro h
    exact ⟨_, h, rfl⟩
def waysM (n m : Int) (f s : List Int) : List Int :=
  if (isG n f && isG m s) = true then
    if 27 < m.toNat ^ n.toNat then [-75] else told ((rows m.toNat n.toNat).length : Int) (btw (rows m.toNat n.toNat) (prs f) (prs s) (rows m.toNat n.toNat).length)
  else [-22]
theorem ways_arr {n m : Int} {f s : List Int} (hs : ∀ x ∈ s, 0 ≤ x) : (Ks549.ways (mkG n f) (mkG m s)).arrows.map ti = btw (rows m.toNat n.toNat) (prs f) (prs s) (rows m.toNat n.toNat).length := by
  unfold Ks549.ways Ks549.make btw from_
  simp only
  rw [List.map_flatMap]
  congr 1
  funext u
  congr 2
  refine List.filter_congr fun v _ => ?_
  unfold lead
  show ((prs f).map tn).all _ = _
  rw [List.all_map]
  congr 1
  funext p
  show Ks547.has (mkG m s) _ _ = _
  rw [has_in hs]
  rfl
theorem ways_eq {n m : Int} {f s : List Int} (hn : 0 ≤ n) (hm : 0 ≤ m) (hf : ∀ x ∈ f, 0 ≤ x) (hs : ∀ x ∈ s, 0 ≤ x) : PyKs549.ways n m f s = waysM n m f s := by
  show Ks549Neutral.out (Ks547.two n.toNat m.toNat (f.map Int.toNat) (s.map Int.toNat) fun g h => if Ks549.MOST < m.toNat ^ n.toNat then Ks549.no (-75) else Ks549.tell (Ks549.ways g h)) = _
  rw [two_eq hn hm hf hs]
  unfold waysM
  split
  · show Ks549Neutral.out (if 27 < m.toNat ^ n.toNat then _ else _) = _
    split
    · rfl
    · show Ks549Neutral.out (Ks549.tell ⟨(rows m.toNat n.toNat).length, (Ks549.ways (mkG n f) (mkG m s)).arrows⟩) = _
      rw [tell_out, ways_arr hs]
  · rfl
end Gt
/-! ### heaps, lists of pairs, ranges: for any program -/
namespace Gt
open PySem PySem.Spec PyProof.Rows L2
theorem small_n {n : Nat} (h : n ≤ 1000000) : n < sizeLine := Nat.lt_of_le_of_lt h (by decide)
theorem same_upd {H : Hp} {D : Addr} {o : HO} (new : H D = none) : Same H (upd H D o) := fun b x e => (upd_ne (ne_of_none e new)).trans e
/-- what was ahead of D stays, whatever D holds -/
theorem same_at {H H' : Hp} {D : Addr} {o : HO} (s : Same H H') (h : H D = none) : Same H (upd H' D o) := fun b x e => by
  rw [upd_ne (ne_of_none e h)]
  exact s b x e
/-- tuples stay -/
def KT (H H' : Hp) : Prop := ∀ t xs, H t = some (.tup xs) → H' t = some (.tup xs)
theorem KT.trans {H H1 H2 : Hp} (a : KT H H1) (b : KT H1 H2) : KT H H2 := fun t xs e => b t xs (a t xs e)
theorem KT.of {H H' : Hp} (s : Same H H') : KT H H' := fun t xs e => s t _ e
theorem KT.lst {H : Hp} {D : Addr} {l : List V} {o : HO} (h : H D = some (.lst l)) : KT H (upd H D o) := fun t xs e => by
  rw [upd_ne (ne_of e h (by intro z; cases z))]
  exact e
theorem KT.new {H : Hp} {D : Addr} {o : HO} (h : H D = none) : KT H (upd H D o) := .of (same_upd h)
/-- vs are pairs of ints, the ints ps -/
inductive TPs (H : Hp) : List V → List (Int × Int) → Prop
  | nil : TPs H [] []
  | cons {t : Addr} {vs : List V} {p : Int × Int} {ps : List (Int × Int)} : H t = some (.tup [.int p.1, .int p.2]) → TPs H vs ps → TPs H (.ref t :: vs) (p :: ps)
theorem TPs.mono {H H' : Hp} (k : KT H H') : ∀ {vs : List V} {ps : List (Int × Int)}, TPs H vs ps → TPs H' vs ps
  | _, _, .nil => .nil
  | _, _, .cons e r => .cons (k _ _ e) (TPs.mono k r)
theorem TPs.len {H : Hp} : ∀ {vs : List V} {ps : List (Int × Int)}, TPs H vs ps → vs.length = ps.length
  | _, _, .nil => rfl
  | _, _, .cons _ r => by rw [List.length_cons, List.length_cons, TPs.len r]
theorem TPs.app {H : Hp} : ∀ {vs us : List V} {ps qs : List (Int × Int)}, TPs H vs ps → TPs H us qs → TPs H (vs ++ us) (ps ++ qs)
  | _, _, _, _, .nil, b => b
  | _, _, _, _, .cons e r, b => .cons e (TPs.app r b)
theorem TPs.one {H : Hp} {t : Addr} {p : Int × Int} (e : H t = some (.tup [.int p.1, .int p.2])) : TPs H [.ref t] [p] := .cons e .nil
theorem TPs.get {H : Hp} : ∀ {vs : List V} {ps : List (Int × Int)} {i : Nat} {p : Int × Int}, TPs H vs ps → ps[i]? = some p → ∃ t, vs[i]? = some (.ref t) ∧ H t = some (.tup [.int p.1, .int p.2])
  | _, _, i, p, .nil, h => by simp at h
  | _, _, 0, p, .cons (t := t) e r, h => by
    cases Option.some.inj h
    exact ⟨t, rfl, e⟩
  | _, _, i + 1, p, .cons e r, h => TPs.get r (i := i) h
theorem TPs.at {H : Hp} {vs : List V} {ps : List (Int × Int)} {i : Nat} {v : V} (h : TPs H vs ps) (e : vs[i]? = some v) : ∃ t p, v = .ref t ∧ ps[i]? = some p ∧ H t = some (.tup [.int p.1, .int p.2]) := by
  have hi : i < ps.length := by
    rw [← h.len]
    exact (List.getElem?_eq_some_iff.mp e).1
  obtain ⟨t, e1, e2⟩ := h.get (List.getElem?_eq_getElem hi)
  rw [e] at e1
  exact ⟨t, _, Option.some.inj e1, List.getElem?_eq_getElem hi, e2⟩
theorem take_more {α : Type} {l : List α} {i : Nat} {x : α} (h : l[i]? = some x) : l.take (i + 1) = l.take i ++ [x] := by
  rw [List.take_add_one, h]
  rfl
theorem fits {i : Int} (h1 : -1000 ≤ i) (h2 : i ≤ 100000) : Builtin.Range.rangeFitsLong i = true := by
  unfold Builtin.Range.rangeFitsLong
  rw [Bool.and_eq_true]
  exact ⟨decide_eq_true (by omega), decide_eq_true (by omega)⟩
/-- range(0, n, 2) of an even n -/
theorem rg_two {n : Nat} (hn : n ≤ 1000) (he : n % 2 = 0) : RgC 0 (n : Int) 2 (n / 2) := by
  have e : Builtin.Range.rangeSize 0 (n : Int) 2 = ((n / 2 : Nat) : Int) := by
    unfold Builtin.Range.rangeSize
    rw [if_pos (by decide)]
    split <;> omega
  refine ⟨by decide, by decide, ?_, e⟩
  unfold Builtin.Range.small
  rw [e]
  have f1 := fits (i := 0) (by decide) (by decide)
  have f2 := fits (i := 2) (by decide) (by decide)
  have f3 := fits (i := (n : Int)) (by omega) (by omega)
  have f4 := fits (i := ((n / 2 : Nat) : Int)) (by omega) (by omega)
  have f5 := fits (i := (n : Int) + (2 - 1)) (by omega) (by omega)
  rw [if_pos (show (2 : Int) > 0 by decide)]
  rw [f1, f2, f3, f4, f5]
  cases ((n / 2 : Nat) : Int) == 0 <;> rfl
theorem lex2 (p q : Int × Int) : HT.lexLt [p.1, p.2] [q.1, q.2] = ltB p q := by
  rw [HT.lexLt_cons, HT.lexLt_cons, HT.lexLt_nil_nil]
  unfold ltB
  split
  · split
    · rename_i h
      rw [h]
      simp
    · rfl
  · rfl
theorem prs_get : ∀ {l : List Int} {i : Nat} {u v : Int}, l[2 * i]? = some u → l[2 * i + 1]? = some v → (prs l)[i]? = some (u, v)
  | [], _, _, _, h, _ => by simp at h
  | [_], 0, _, _, _, h => by simp at h
  | [_], i + 1, _, _, h, _ => by simp [Nat.mul_add] at h
  | a :: b :: l, 0, u, v, h1, h2 => by
    cases Option.some.inj h1
    cases Option.some.inj h2
    rfl
  | a :: b :: l, i + 1, u, v, h1, h2 => by
    have e : 2 * (i + 1) = 2 * i + 1 + 1 := by omega
    rw [e] at h1 h2
    exact prs_get (l := l) (i := i) h1 h2
/-- the truths of «each is greater than the one ahead of it», by place -/
def upTo (ps : List (Int × Int)) (i : Nat) : List Bool := (List.range i).map fun j => ltB (ps.getD j (0, 0)) (ps.getD (j + 1) (0, 0))
theorem upTo_more (ps : List (Int × Int)) (i : Nat) : upTo ps (i + 1) = upTo ps i ++ [ltB (ps.getD i (0, 0)) (ps.getD (i + 1) (0, 0))] := by
  unfold upTo
  rw [List.range_succ, List.map_append]
  rfl
theorem upTo_all : ∀ (ps : List (Int × Int)), (upTo ps (ps.length - 1)).all id = rise ps
  | [] => rfl
  | [_] => rfl
  | p :: q :: r => by
    have ih := upTo_all (q :: r)
    unfold upTo at ih ⊢
    have e : (p :: q :: r).length - 1 = ((q :: r).length - 1) + 1 := by
      simp only [List.length_cons]
      omega
    rw [e, List.range_succ_eq_map, List.map_cons, List.all_cons, List.map_map]
    show (ltB p q && _) = (ltB p q && rise (q :: r))
    rw [← ih]
    rfl
end Gt
/-! ### lists of lists of ints; a pair in a list of pairs -/
namespace Gt
open PySem PySem.Spec PyProof.Rows L2
def nums (r : List Nat) : List V := r.map fun x => V.int (x : Nat)
theorem nums_at {r : List Nat} {i : Nat} (h : i < r.length) : (nums r)[i]? = some (.int (r.getD i 0 : Nat)) := by
  unfold nums
  rw [List.getElem?_map, List.getD_eq_getElem?_getD, List.getElem?_eq_getElem h]
  rfl
/-- vs are lists of ints, the ints R, at places of which X holds -/
inductive Wls (X : Addr → Prop) (H : Hp) : List V → List (List Nat) → Prop
  | nil : Wls X H [] []
  | cons {t : Addr} {vs : List V} {r : List Nat} {R : List (List Nat)} : X t → H t = some (.lst (nums r)) → Wls X H vs R → Wls X H (.ref t :: vs) (r :: R)
theorem Wls.mono {X Y : Addr → Prop} {H H' : Hp} (k : ∀ t l, X t → H t = some (.lst l) → Y t ∧ H' t = some (.lst l)) : ∀ {vs : List V} {R : List (List Nat)}, Wls X H vs R → Wls Y H' vs R
  | _, _, .nil => .nil
  | _, _, .cons x e r => .cons (k _ _ x e).1 (k _ _ x e).2 (Wls.mono k r)
theorem Wls.same {X : Addr → Prop} {H H' : Hp} (s : Same H H') {vs : List V} {R : List (List Nat)} (h : Wls X H vs R) : Wls X H' vs R := h.mono fun t l x e => ⟨x, s t _ e⟩
theorem Wls.len {X : Addr → Prop} {H : Hp} : ∀ {vs : List V} {R : List (List Nat)}, Wls X H vs R → vs.length = R.length
  | _, _, .nil => rfl
  | _, _, .cons _ _ r => by rw [List.length_cons, List.length_cons, Wls.len r]
theorem Wls.app {X : Addr → Prop} {H : Hp} : ∀ {vs us : List V} {R S : List (List Nat)}, Wls X H vs R → Wls X H us S → Wls X H (vs ++ us) (R ++ S)
  | _, _, _, _, .nil, b => b
  | _, _, _, _, .cons x e r, b => .cons x e (Wls.app r b)
theorem Wls.one {X : Addr → Prop} {H : Hp} {t : Addr} {r : List Nat} (x : X t) (e : H t = some (.lst (nums r))) : Wls X H [.ref t] [r] := .cons x e .nil
theorem Wls.get {X : Addr → Prop} {H : Hp} : ∀ {vs : List V} {R : List (List Nat)} {i : Nat} {r : List Nat}, Wls X H vs R → R[i]? = some r → ∃ t, vs[i]? = some (.ref t) ∧ X t ∧ H t = some (.lst (nums r))
  | _, _, i, r, .nil, h => by simp at h
  | _, _, 0, r, .cons (t := t) x e _, h => by
    cases Option.some.inj h
    exact ⟨t, rfl, x, e⟩
  | _, _, i + 1, r, .cons _ _ q, h => Wls.get q (i := i) h
theorem Wls.at {X : Addr → Prop} {H : Hp} {vs : List V} {R : List (List Nat)} {i : Nat} {v : V} (h : Wls X H vs R) (e : vs[i]? = some v) : ∃ t r, v = .ref t ∧ R[i]? = some r ∧ X t ∧ H t = some (.lst (nums r)) := by
  have hi : i < R.length := by
    rw [← h.len]
    exact (List.getElem?_eq_some_iff.mp e).1
  obtain ⟨t, e1, x, e2⟩ := h.get (List.getElem?_eq_getElem hi)
  rw [e] at e1
  exact ⟨t, _, Option.some.inj e1, List.getElem?_eq_getElem hi, x, e2⟩
/-! a pair in a list of pairs -/
def dP (p : Int × Int) : PyData := .tuple [.int p.1, .int p.2]
theorem dP_eqv (p q : Int × Int) : PyData.eqv (dP p) (dP q) = decide (q = p) := by
  unfold dP
  rw [PyData.eqv, PyData.eqvAll, PyData.eqvAll, PyData.eqvAll, PyData.eqv, PyData.eqv, Bool.eq_iff_iff]
  simp only [Bool.and_eq_true, beq_iff_eq, and_true, decide_eq_true_eq]
  constructor
  · rintro ⟨a, b⟩
    exact Prod.ext a.symm b.symm
  · rintro rfl
    exact ⟨rfl, rfl⟩
theorem dP_any (q : Int × Int) (T : List (Int × Int)) : ((T.map dP).any fun z => PyData.eqv z (dP q)) = decide (q ∈ T) := by
  rw [List.any_map, Bool.eq_iff_iff, List.any_eq_true, decide_eq_true_iff]
  constructor
  · rintro ⟨p, hp, e⟩
    have e : PyData.eqv (dP p) (dP q) = true := e
    rw [dP_eqv, decide_eq_true_iff] at e
    exact e ▸ hp
  · intro h
    refine ⟨q, h, ?_⟩
    show PyData.eqv (dP q) (dP q) = true
    rw [dP_eqv, decide_eq_true_iff]
theorem dP_lay (p : Int × Int) : (dP p).canLay0 = true := by simp [dP, PyData.canLay0, PyData.canLayAll0]
theorem dP_depth (p : Int × Int) : (dP p).depth = 1 := by simp [dP, PyData.depth, PyData.depthAll]
theorem dP_shaped (p : Int × Int) : SeqAt.shaped (dP p) = true := by
  unfold SeqAt.shaped
  rw [dP_lay, dP_depth]
  rfl
theorem dPs_lay : ∀ T : List (Int × Int), PyData.canLayAll0 (T.map dP) = true
  | [] => by simp [PyData.canLayAll0]
  | p :: T => by simp [PyData.canLayAll0, dP_lay p, dPs_lay T]
theorem dPs_depth : ∀ T : List (Int × Int), PyData.depthAll (T.map dP) ≤ 1
  | [] => by simp [PyData.depthAll]
  | p :: T => by
    have := dPs_depth T
    simp [PyData.depthAll, dP_depth p, this]
theorem dPs_shaped (T : List (Int × Int)) : SeqAt.shaped (.list (T.map dP)) = true := by
  unfold SeqAt.shaped
  rw [PyData.canLay0, dPs_lay, PyData.depth, Bool.true_and, decide_eq_true_iff]
  have := dPs_depth T
  omega
theorem TPs.dp {K : PySem.W.Frag} {H : Hp} : ∀ {vs : List V} {ps : List (Int × Int)}, TPs H vs ps → DpAll K H vs (ps.map dP)
  | _, _, .nil => .nil
  | _, _, .cons e r => .cons (.tup (SqT.of e) (.cons (.int _) (.cons (.int _) .nil))) (TPs.dp r)
theorem units65 {k : Nat} {A : Around} (r : Room k A) : A.units + 65 < cLine := by
  have := r.un
  omega
end Gt
/-! ### the text -/
namespace Gt
open PySem PySem.Spec PyProof.Rows L2
def topS (i : Nat) : Stmt := PySem.Challenge.pw_graphstogether_s03_ways.main.body.getD i (.Pass ⟨0, 0, 0, 0⟩)
abbrev sWay : Stmt := topS 5
abbrev sIsG : Stmt := topS 10
abbrev sRis : Stmt := topS 11
abbrev sArr : Stmt := topS 12
abbrev sAns : Stmt := topS 13
abbrev sCnt : Stmt := topS 6
abbrev sAll : Stmt := topS 7
abbrev sLea : Stmt := topS 9
abbrev sBtw : Stmt := topS 8
end Gt
/-! ### the defs that all calls share -/
namespace Gt
open PySem PySem.Spec PyProof.Rows L2
theorem scArr : FnScope ["told", "k"] ["told"] (defScope sArr) := ⟨rfl, rfl, rfl, by decide +kernel, rfl, by decide +kernel, by decide +kernel⟩
theorem scRis : FnScope ["arrows", "k"] ["arrows"] (defScope sRis) := ⟨rfl, rfl, rfl, by decide +kernel, rfl, by decide +kernel, by decide +kernel⟩
theorem scIsG : FnScope ["places", "told", "place"] ["places", "told"] (defScope sIsG) := ⟨rfl, rfl, rfl, by decide +kernel, rfl, by decide +kernel, by decide +kernel⟩
def spArr (K : PySem.W.Frag) : Sp := fun vs H Q _ => ∃ (a : Addr) (ns : List Int), vs = [.ref a] ∧ SqL K H a (ns.map V.int) ∧ ns.length ≤ 1000 ∧ ns.length % 2 = 0 ∧
  ∀ (H' : Hp) (p : Addr) (us : List V), Same H H' → H p = none → H' p = some (.lst us) → TPs H' us (prs ns) → Q (.ref p) H'
def spRis : Sp := fun vs H Q _ => ∃ (a : Addr) (us : List V) (ps : List (Int × Int)), vs = [.ref a] ∧ H a = some (.lst us) ∧ TPs H us ps ∧ ps.length ≤ 1000 ∧
  ∀ H' : Hp, Same H H' → Q (.bl (rise ps)) H'
def spIsG (K : PySem.W.Frag) : Sp := fun vs H Q _ => ∃ (n : Int) (a : Addr) (ns : List Int), vs = [.int n, .ref a] ∧ SqL K H a (ns.map V.int) ∧ ns.length ≤ 1000 ∧
  ∀ H' : Hp, Same H H' → Q (.bl (isG n ns)) H'
section
variable {P : Program} {w : World} {K : PySem.W.Frag} {mg : Str → Option Value} {base : Heap}
theorem ok_arr {f : Addr} {fd : FuncData} {k : Nat} (F : Fun K "arrows_of" "arrows_of" sArr f fd) (mr : mg "range" = none) (ml : mg "len" = none) : FnOk P w K mg base CX0 (k + 1) f fd ["told"] (spArr K) := by
  refine F.ok scArr (fun vs H Q E h => ?_) (fun cdv A outer s H vs Q E hr h => ?_)
  · obtain ⟨a, ns, rfl, _⟩ := h
    rfl
  · obtain ⟨a, ns, rfl, hS, hlen, hev, q⟩ := h
    refine ⟨_, pss_one (ps_ret (pe_lc (own := [("k", 1)]) (g := gName 1) (tt := tYes) rfl scArr.nd
      (pi_range3 (by rfl) mr (pa_cons pe_int (pa_cons (pe_callB call_len_seq (by rfl) ml PySem.boot_len (pa_cons (pv 0) pa_nil)) (pa_cons pe_int pa_nil))))
      (blkOk_by (N := ["told", "k"]) (sc := defScope sArr) (by decide +kernel)) (fun _ _ _ _ _ => pg_name (i := 1) scArr.nd rfl (Or.inl rfl)) (fun _ _ _ _ _ => pts_nil)
      (fun _ _ _ _ _ => pe_tup (pa_cons (pe_ix (r := rIxL K) ix_list (pv 0) (pv 1) (fun _ _ => rfl)) (pa_cons (pe_ix (r := rIxL K) ix_list (pv 0) (pe_op op_add (pv 1) pe_int) (fun _ _ => rfl)) pa_nil))))), ?_⟩
    have hl2 : ((ns.map V.int).length : Int) = (ns.length : Int) := by rw [List.length_map]
    refine ⟨.ref a, rfl, a, ns.map V.int, rfl, .inl hS, 0, ((ns.map V.int).length : Int), 2, ns.length / 2, rfl, hl2 ▸ rg_two hlen hev, fun D nD => ?_⟩
    refine lc_it (walk_rangeC (lo := 0) (c := 2) (n := ns.length / 2)) (fun i H1 => Same H H1 ∧ ∃ us, H1 D = some (.lst us) ∧ TPs H1 us ((prs ns).take i)) ⟨same_upd nD, [], upd_same, by rw [List.take_zero]; exact .nil⟩ (fun _ _ _ _ => trivial) ?_ ?_
    · rintro i x H0 H1 hi ⟨s1, us, e1, t1⟩ ⟨e0, rfl⟩
      subst e0
      have h1 : 2 * i < ns.length := by omega
      have h2 : 2 * i + 1 < ns.length := by omega
      have g1 : (ns.map V.int)[2 * i]? = some (.int ns[2 * i]) := by
        rw [List.getElem?_map, List.getElem?_eq_getElem h1]
        rfl
      have g2 : (ns.map V.int)[2 * i + 1]? = some (.int ns[2 * i + 1]) := by
        rw [List.getElem?_map, List.getElem?_eq_getElem h2]
        rfl
      have gp : (prs ns)[i]? = some (ns[2 * i], ns[2 * i + 1]) := prs_get (List.getElem?_eq_getElem h1) (List.getElem?_eq_getElem h2)
      have hA : SqL K H1 a (ns.map V.int) := s1.seq hS
      refine ⟨rfl, ?_⟩
      refine ⟨.ref a, rfl, .int (0 + (i : Nat) * 2), rfl, a, _, 0 + (i : Nat) * 2, .int ns[2 * i], rfl, rfl, hA, at_of (j := 2 * i) (by omega) g1, ?_⟩
      refine ⟨.ref a, rfl, .int (0 + (i : Nat) * 2), rfl, 0 + (i : Nat) * 2, 1, rfl, rfl, a, _, 0 + (i : Nat) * 2 + 1, .int ns[2 * i + 1], rfl, rfl, hA, at_of (j := 2 * i + 1) (by omega) g2, ?_⟩
      refine ⟨(by show 2 ≤ sizeLine; decide), fun T nT => ?_⟩
      have nDT : D ≠ T := ne_of_none e1 nT
      have eD : (upd H1 T (.tup [.int ns[2 * i], .int ns[2 * i + 1]])) D = some (.lst us) := by
        rw [upd_ne nDT]
        exact e1
      refine ⟨us, eD, ?_, ?_⟩
      · rw [t1.len, List.length_take, prs_len]
        exact small_n (by omega)
      · refine ⟨same_at (s1.trans (same_upd nT)) nD, _, upd_same, ?_⟩
        rw [take_more gp]
        refine ((t1.mono (KT.new nT)).mono (KT.lst eD)).app (TPs.one ?_)
        exact KT.lst eD _ _ upd_same
    · rintro H1 ⟨s1, us, e1, t1⟩
      rw [List.take_of_length_le (by rw [prs_len]; exact Nat.le_refl _)] at t1
      exact q H1 D us s1 nD e1 t1
theorem ok_ris {f : Addr} {fd : FuncData} {k : Nat} (F : Fun K "is_rising" "is_rising" sRis f fd) (mr : mg "range" = none) (ml : mg "len" = none) (ma : mg "all" = none) : FnOk P w K mg base CX0 (k + 1) f fd ["arrows"] spRis := by
  refine F.ok scRis (fun vs H Q E h => ?_) (fun cdv A outer s H vs Q E hr h => ?_)
  · obtain ⟨a, us, ps, rfl, _⟩ := h
    rfl
  · obtain ⟨a, us, ps, rfl, hS, ht, hlen, q⟩ := h
    refine ⟨_, pss_one (ps_ret (pe_callB (cr_all rfl) (by rfl) ma (by decide +kernel) (pa_cons (pe_lc (own := [("k", 1)]) (g := gName 1) (tt := tYes) rfl scRis.nd
      (pi_range2 (by rfl) mr (pa_cons pe_int (pa_cons (pe_callB call_len_seq (by rfl) ml PySem.boot_len (pa_cons (pv 0) pa_nil)) pa_nil)))
      (blkOk_by (N := ["arrows", "k"]) (sc := defScope sRis) (by decide +kernel)) (fun _ _ _ _ _ => pg_name (i := 1) scRis.nd rfl (Or.inl rfl)) (fun _ _ _ _ _ => pts_nil)
      (fun _ _ _ _ _ => pe_cmpR (r := rLtT K) (op_ltT hr.units0) (pe_ix (r := rIxL K) ix_list (pv 0) (pe_op op_sub (pv 1) pe_int) (fun _ _ => rfl)) (pe_ix (r := rIxL K) ix_list (pv 0) (pv 1) (fun _ _ => rfl)) (nomark _))) pa_nil))), ?_⟩
    have hl := ht.len
    refine ⟨.ref a, rfl, a, us, rfl, .inl (SqL.of hS), 1, (us.length : Int), rfl, ⟨by decide, by decide, by omega, by omega⟩, fun D nD => ?_⟩
    have nn : ((us.length : Int) - 1).toNat = ps.length - 1 := by omega
    rw [nn]
    refine lc_range (fun i H1 => Same H H1 ∧ H1 D = some (.lst ((upTo ps i).map V.bl))) ⟨same_upd nD, upd_same⟩ ?_ ?_
    · rintro i H1 hi ⟨s1, e1⟩
      have h1 : i < ps.length := by omega
      have h2 : i + 1 < ps.length := by omega
      obtain ⟨t, g1, k1⟩ := ht.get (List.getElem?_eq_getElem h1)
      obtain ⟨t', g2, k2⟩ := ht.get (List.getElem?_eq_getElem h2)
      have hA : SqL K H1 a us := SqL.of (s1 _ _ hS)
      refine ⟨rfl, ?_⟩
      refine ⟨.ref a, rfl, .int (1 + (i : Nat)), rfl, 1 + (i : Nat), 1, rfl, rfl, a, _, 1 + (i : Nat) - 1, .ref t, rfl, rfl, hA, at_of (j := i) (by omega) g1, ?_⟩
      refine ⟨.ref a, rfl, .int (1 + (i : Nat)), rfl, a, _, 1 + (i : Nat), .ref t', rfl, rfl, hA, at_of (j := i + 1) (by omega) g2, ?_⟩
      refine ⟨t, t', [ps[i].1, ps[i].2], [ps[i + 1].1, ps[i + 1].2], rfl, rfl, SqT.of (s1 _ _ k1), SqT.of (s1 _ _ k2), _, e1, ?_, ?_⟩
      · rw [List.length_map]
        unfold upTo
        rw [List.length_map, List.length_range]
        exact small_n (by omega)
      · refine ⟨same_at s1 nD, ?_⟩
        rw [upd_same, lex2, upTo_more, List.map_append, List.getD_eq_getElem?_getD, List.getD_eq_getElem?_getD, List.getElem?_eq_getElem h1, List.getElem?_eq_getElem h2]
        rfl
    · rintro H1 ⟨s1, e1⟩
      refine ⟨D, _, rfl, SqL.of e1, ?_⟩
      rw [upTo_all]
      exact q H1 s1
theorem ok_isg {f fA fR : Addr} {fd fdA fdR : FuncData} {k : Nat} {t5 : Tok} (F : Fun K "is_graph" "is_graph" sIsG f fd) (FA : Fun K "arrows_of" "arrows_of" sArr fA fdA) (bA : Binds K fdA ["told"] []) (gA : mg "arrows_of" = some (.ref fA))
    (FR : Fun K "is_rising" "is_rising" sRis fR fdR) (bR : Binds K fdR ["arrows"] []) (gR : mg "is_rising" = some (.ref fR)) (gM : mg "MOST_PLACES" = some (.int 5 t5)) (mr : mg "range" = none) (ml : mg "len" = none) (ma : mg "all" = none) :
    FnOk P w K mg base CX0 (k + 2) f fd ["places", "told"] (spIsG K) := by
  have GA : FnOk P w K mg base CX0 (k + 1) fA fdA ["told"] (spArr K) := ok_arr FA mr ml
  have GR : FnOk P w K mg base CX0 (k + 1) fR fdR ["arrows"] spRis := ok_ris FR mr ml ma
  refine F.ok scIsG (fun vs H Q E h => ?_) (fun cdv A outer s H vs Q E hr h => ?_)
  · obtain ⟨n, a, ns, rfl, _⟩ := h
    rfl
  · obtain ⟨n, a, ns, rfl, hS, hlen, q⟩ := h
    refine ⟨_, pss_cons (ps_if (pw_or (pt_cmpR op_lt (pv 0) pe_int (nomark _)) (pw_or (pt_cmpR op_gt (pv 0) (pe_glob (v := .int 5) (by rfl) gM ⟨_, rfl⟩) (nomark _))
        (pw_or1 (pt_cmpR op_ne (pe_op op_mod (pe_callB call_len_seq (by rfl) ml PySem.boot_len (pa_cons (pv 1) pa_nil)) pe_int) pe_int (nomark _))))).pt
        (pss_one (ps_ret pe_bl)) pss_nil)
      (pss_one (ps_ret (pe_and (pe_callB (cr_all rfl) (by rfl) ma (by decide +kernel) (pa_cons (pe_lc (own := [("place", 2)]) (g := gName 2) (tt := tYes) rfl scIsG.nd (pi_list (pv 1))
          (blkOk_by (N := ["places", "told", "place"]) (sc := defScope sIsG) (by decide +kernel)) (fun _ _ _ _ _ => pg_name (i := 2) scIsG.nd rfl (Or.inl rfl)) (fun _ _ _ _ _ => pts_nil)
          (fun _ _ _ _ _ => pe_cmpR op_lt (pv 2) (pv 0) (nomark _))) pa_nil))
        (pe_one (pe_call GR hr (by rfl) gR FR.kp bR .nil pass0 (pa_cons (pe_call GA hr (by rfl) gA FA.kp bA .nil pass0 (pa_cons (pv 1) pa_nil)) pa_nil)))))), ?_⟩
    -- places < 1
    refine ⟨.int n, rfl, n, 1, rfl, rfl, _, rfl, ite2 (fun c => ?_) (fun c => ?_)⟩
    · refine iteT ?_
      have e : isG n ns = false := by
        unfold isG
        rw [if_pos (.inl (of_decide_eq_true c))]
      exact e ▸ q H (Same.refl H)
    -- places > MOST_PLACES
    · refine ⟨.int n, rfl, n, 5, rfl, rfl, _, rfl, ite2 (fun c2 => ?_) (fun c2 => ?_)⟩
      · refine iteT ?_
        have e : isG n ns = false := by
          unfold isG
          rw [if_pos (.inr (.inl (of_decide_eq_true c2)))]
        exact e ▸ q H (Same.refl H)
      -- len(told) % 2 != 0
      · refine ⟨.ref a, rfl, a, ns.map V.int, rfl, .inl hS, ((ns.map V.int).length : Int), 2, rfl, rfl, (by show (0 : Int) < 2; decide), rfl, _, rfl, ite2 (fun c3 => ?_) (fun c3 => ?_)⟩
        · have od : ns.length % 2 ≠ 0 := by
            intro z
            have c5 : (!decide (V.int (((ns.map V.int).length : Int) % 2) = V.int 0)) = true := c3
            rw [List.length_map, show ((ns.length : Int) % 2) = 0 by omega, decide_eq_true rfl] at c5
            cases c5
          have e : isG n ns = false := by
            unfold isG
            rw [if_pos (.inr (.inr od))]
          exact e ▸ q H (Same.refl H)
        · have ev : ns.length % 2 = 0 := by
            rw [List.length_map] at c3
            simp only [Bool.not_eq_true', decide_eq_false_iff_not, Classical.not_not] at c3
            have := V.int.inj c3
            omega
          have n1 : ¬ (n < 1 ∨ 5 < n ∨ ns.length % 2 ≠ 0) := by
            simp only [decide_eq_true_eq] at c c2
            omega
          -- all([place < places for place in told])
          refine ⟨.ref a, rfl, a, rfl, ⟨_, hS⟩, fun D nD => ?_⟩
          refine lc_list (K := K) (a := a) (xs := ns.map V.int) (fun i H1 => Same H H1 ∧ H1 D = some (.lst (((ns.take i).map fun x => decide (x < n)).map V.bl))) ⟨same_upd nD, upd_same⟩ (fun i H1 _ h1 => h1.1.seq hS) ?_ ?_
          · rintro i x H1 hx ⟨s1, e1⟩
            rw [List.getElem?_map] at hx
            obtain ⟨z, hz, rfl⟩ := Option.map_eq_some_iff.mp hx
            refine ⟨rfl, ?_⟩
            refine ⟨.int z, rfl, .int n, rfl, z, n, rfl, rfl, _, e1, ?_, same_at s1 nD, ?_⟩
            · rw [List.length_map, List.length_map, List.length_take]
              exact small_n (by omega)
            · rw [upd_same, take_more hz, List.map_append, List.map_append]
              rfl
          · rintro H1 ⟨s1, e1⟩
            rw [List.length_map, List.take_length] at e1
            refine ⟨D, _, rfl, SqL.of e1, _, rfl, ite2 (fun c4 => ?_) (fun c4 => ?_)⟩
            · -- is_rising(arrows_of(told))
              refine ⟨.ref a, rfl, a, ns, rfl, s1.seq hS, hlen, ev, fun H2 p us s2 _ e2 t2 => ?_⟩
              refine ⟨p, us, _, rfl, e2, t2, by rw [prs_len]; omega, fun H3 s3 => ?_⟩
              have e : isG n ns = rise (prs ns) := by
                unfold isG
                rw [if_neg n1]
                rw [List.all_map] at c4
                rw [show (ns.all fun x => decide (x < n)) = true from c4, Bool.true_and]
              exact e ▸ q H3 (s1.trans (s2.trans s3))
            · have e : isG n ns = false := by
                unfold isG
                rw [if_neg n1]
                rw [List.all_map] at c4
                rw [show (ns.all fun x => decide (x < n)) = false from Bool.eq_false_iff.mpr c4, Bool.false_and]
              exact e ▸ q H1 s1
end
end Gt
/-! ### answer -/
namespace Gt
open PySem PySem.Spec PyProof.Rows L2
theorem scAns : FnScope ["places", "arrows", "numbers", "begin", "end"] ["places", "arrows"] (defScope sAns) := ⟨rfl, rfl, rfl, by decide +kernel, rfl, by decide +kernel, by decide +kernel⟩
def spAns : Sp := fun vs H Q _ => ∃ (n : Int) (a : Addr) (us : List V) (ps : List (Int × Int)), vs = [.int n, .ref a] ∧ H a = some (.lst us) ∧ TPs H us ps ∧ ps.length ≤ 10000 ∧
  ∀ (H' : Hp) (p : Addr), H' p = some (.lst ((told n ps).map V.int)) → Q (.ref p) H'
section
variable {P : Program} {w : World} {K : PySem.W.Frag} {mg : Str → Option Value} {base : Heap}
theorem ok_ans {f : Addr} {fd : FuncData} {k : Nat} (F : Fun K "answer" "answer" sAns f fd) (ml : mg "len" = none) : FnOk P w K mg base CX0 (k + 1) f fd ["places", "arrows"] spAns := by
  refine F.ok scAns (fun vs H Q E h => ?_) (fun cdv A outer s H vs Q E hr h => ?_)
  · obtain ⟨n, a, us, ps, rfl, _⟩ := h
    rfl
  · obtain ⟨n, a, us, ps, rfl, hS, ht, hlen, q⟩ := h
    refine ⟨_, pss_cons (ps_set (i := 2) scAns.nd rfl (.inl rfl) (pe_lst (pa_cons (pv 0) (pa_cons (pe_callB call_len_seq (by rfl) ml PySem.boot_len (pa_cons (pv 1) pa_nil)) pa_nil))))
      (pss_cons (ps_for PassesOwn.never rfl (pi_list (pv 1)) (pg_tup rfl (pgs_cons (pg_name (i := 3) scAns.nd rfl (.inl rfl)) (pgs_cons (pg_name (i := 4) scAns.nd rfl (.inl rfl)) pgs_nil)))
        (pss_one (ps_expr (pe_bm PySem.F.plainAttrs_list PySem.F.slot_list_extend PySem.F.type_list_extend mt_extend (pv 2) (pa_cons (pe_lst (pa_cons (pv 3) (pa_cons (pv 4) pa_nil))) pa_nil)))))
      (pss_one (ps_ret (pv 2)))), ?_⟩
    have hl := ht.len
    refine ⟨.int n, rfl, .ref a, rfl, a, us, rfl, .inl (SqL.of hS), (by show 2 ≤ sizeLine; decide), fun o no => ?_⟩
    have s1 : Same H (upd H o (.lst [.int n, .int us.length])) := same_upd no
    refine ⟨.ref a, rfl, a, rfl, ⟨_, SqL.of (s1 _ _ hS)⟩, for_list (K := K) (a := a) (xs := us) (fun i σ H1 => ∃ y3 y4, σ = [some (.int n), some (.ref a), some (.ref o), y3, y4] ∧ Same H H1 ∧ H1 o = some (.lst ((n :: (us.length : Int) :: flat (ps.take i)).map V.int)))
      ⟨none, none, rfl, s1, upd_same⟩ (fun i σ H1 _ h1 => by
        obtain ⟨_, _, _, s2, _⟩ := h1
        exact SqL.of (s2 _ _ hS)) ?_ ?_⟩
    · rintro i x σ H1 hx ⟨y3, y4, rfl, s2, e2⟩
      obtain ⟨t, p, rfl, hp, kt⟩ := ht.at hx
      refine ⟨t, [.int p.1, .int p.2], rfl, SqT.of (s2 _ _ kt), rfl, .int p.1, [.int p.2], rfl, .int p.2, [], rfl, rfl, ?_⟩
      refine ⟨.ref o, rfl, .inl ⟨rfl, _, SqL.of e2⟩, .int p.1, rfl, .int p.2, rfl, (by show 2 ≤ sizeLine; decide), fun b nb => ?_⟩
      have eo : (upd H1 b (.lst [.int p.1, .int p.2])) o = some (.lst ((n :: (us.length : Int) :: flat (ps.take i)).map V.int)) := by
        rw [upd_ne (ne_of_none e2 nb)]
        exact e2
      refine ⟨o, b, _, _, rfl, rfl, eo, upd_same, ?_, ?_⟩
      · have fl : ∀ l : List (Int × Int), (flat l).length = 2 * l.length := fun l => by
          unfold flat
          induction l with
          | nil => rfl
          | cons c r ih =>
            rw [List.flatMap_cons, List.length_append, ih, List.length_cons, List.length_cons, List.length_cons, List.length_nil]
            omega
        have h3 : i < ps.length := (List.getElem?_eq_some_iff.mp hp).1
        have h4 : ((n :: (us.length : Int) :: flat (ps.take i)).map V.int).length = 2 + 2 * i := by
          rw [List.length_map, List.length_cons, List.length_cons, fl, List.length_take]
          omega
        rw [h4]
        exact Nat.le_of_lt (small_n (by show 2 + 2 * i + 2 ≤ 1000000; omega))
      · refine ⟨some (.int p.1), some (.int p.2), rfl, same_at (s2.trans (same_upd nb)) no, ?_⟩
        rw [upd_same, take_more hp]
        have ef : flat (ps.take i ++ [p]) = flat (ps.take i) ++ [p.1, p.2] := by
          unfold flat
          rw [List.flatMap_append]
          rfl
        rw [ef]
        simp only [List.map_cons, List.map_append, List.cons_append, List.map_nil]
    · rintro σ H1 ⟨y3, y4, rfl, s2, e2⟩
      rw [List.take_of_length_le (by omega), hl] at e2
      exact ⟨.ref o, rfl, q H1 o e2⟩
end
end Gt
/-! ### number_of_ways -/
namespace Gt
open PySem PySem.Spec PyProof.Rows L2
theorem scCnt : FnScope ["n", "m", "count", "place"] ["n", "m"] (defScope sCnt) := ⟨rfl, rfl, rfl, by decide +kernel, rfl, by decide +kernel, by decide +kernel⟩
def spCnt : Sp := fun vs H Q _ => ∃ n m : Int, vs = [.int n, .int m] ∧ (1 ≤ n ∧ n ≤ 5) ∧ (1 ≤ m ∧ m ≤ 5) ∧ Q (.int ((m.toNat ^ n.toNat : Nat) : Int)) H
section
variable {P : Program} {w : World} {K : PySem.W.Frag} {mg : Str → Option Value} {base : Heap}
theorem ok_cnt {f : Addr} {fd : FuncData} {k : Nat} (F : Fun K "number_of_ways" "number_of_ways" sCnt f fd) (mr : mg "range" = none) : FnOk P w K mg base CX0 (k + 1) f fd ["n", "m"] spCnt := by
  refine F.ok scCnt (fun vs H Q E h => ?_) (fun cdv A outer s H vs Q E hr h => ?_)
  · obtain ⟨n, m, rfl, _⟩ := h
    rfl
  · obtain ⟨n, m, rfl, hn, hm, q⟩ := h
    refine ⟨_, pss_cons (ps_set (i := 2) scCnt.nd rfl (.inl rfl) pe_int)
      (pss_cons (ps_for PassesOwn.never rfl (pi_range1 (by rfl) mr (pa_cons (pv 0) pa_nil)) (pg_name (i := 3) scCnt.nd rfl (Or.inl rfl))
        (pss_one (ps_set (i := 2) scCnt.nd rfl (.inl rfl) (pe_op op_mul (pv 2) (pv 1)))))
      (pss_one (ps_ret (pv 2)))), ?_⟩
    refine ⟨.int n, rfl, n, rfl, by omega, by omega, for_range (lo := 0) (n := n.toNat) (fun i σ H1 => H1 = H ∧ ∃ y3, σ = [some (.int n), some (.int m), some (.int ((m.toNat ^ i : Nat) : Int)), y3]) ⟨rfl, none, rfl⟩ ?_ ?_⟩
    · rintro i σ H1 hi ⟨rfl, y3, rfl⟩
      refine ⟨.int ((m.toNat ^ i : Nat) : Int), rfl, .int m, rfl, _, _, rfl, rfl, .inr ⟨by omega, by omega⟩, rfl, some (.int (0 + (i : Nat))), ?_⟩
      rw [Nat.pow_succ, Int.natCast_mul, Int.toNat_of_nonneg (by omega : 0 ≤ m)]
      rfl
    · rintro σ H1 ⟨rfl, y3, rfl⟩
      exact ⟨_, rfl, q⟩
end
end Gt
/-! ### all_ways -/
namespace Gt
open PySem PySem.Spec PyProof.Rows L2
theorem scAll : FnScope ["n", "m", "every_way", "place", "longer", "way", "given"] ["n", "m"] (defScope sAll) := ⟨rfl, rfl, rfl, by decide +kernel, rfl, by decide +kernel, by decide +kernel⟩
def spAll : Sp := fun vs H Q _ => ∃ n m : Int, vs = [.int n, .int m] ∧ (1 ≤ n ∧ n ≤ 30) ∧ (1 ≤ m ∧ m ≤ 30) ∧ m.toNat ^ n.toNat ≤ 20000 ∧
  ∀ (H' : Hp) (p : Addr) (us : List V), Same H H' → H' p = some (.lst us) → Wls (fun _ => True) H' us (Ks547.rows m.toNat n.toNat) → Q (.ref p) H'
section
variable {P : Program} {w : World} {K : PySem.W.Frag} {mg : Str → Option Value} {base : Heap}
theorem ok_all {f : Addr} {fd : FuncData} {k : Nat} (F : Fun K "all_ways" "all_ways" sAll f fd) (mr : mg "range" = none) : FnOk P w K mg base CX0 (k + 1) f fd ["n", "m"] spAll := by
  refine F.ok scAll (fun vs H Q E h => ?_) (fun cdv A outer s H vs Q E hr h => ?_)
  · obtain ⟨n, m, rfl, _⟩ := h
    rfl
  · obtain ⟨n, m, rfl, hn, hm, hpow, q⟩ := h
    refine ⟨_, pss_cons (ps_set (i := 2) scAll.nd rfl (.inl rfl) (pe_lst (pa_cons (pe_lst pa_nil) pa_nil)))
      (pss_cons (ps_for PassesOwn.never rfl (pi_range1 (by rfl) mr (pa_cons (pv 0) pa_nil)) (pg_name (i := 3) scAll.nd rfl (Or.inl rfl))
        (pss_cons (ps_set (i := 4) scAll.nd rfl (.inl rfl) (pe_lst pa_nil))
        (pss_cons (ps_for PassesOwn.never rfl (pi_list (pv 2)) (pg_name (i := 5) scAll.nd rfl (Or.inr rfl))
          (pss_one (ps_expr (pe_bm PySem.F.plainAttrs_list PySem.F.slot_list_extend PySem.F.type_list_extend mt_extend (pv 4)
            (pa_cons (pe_lc (own := [("given", 6)]) (g := gName 6) (tt := tYes) rfl scAll.nd (pi_range1 (by rfl) mr (pa_cons (pv 1) pa_nil))
              (blkOk_by (N := ["n", "m", "every_way", "place", "longer", "way", "given"]) (sc := defScope sAll) (by decide +kernel)) (fun _ _ _ _ _ => pg_name (i := 6) scAll.nd rfl (Or.inl rfl)) (fun _ _ _ _ _ => pts_nil)
              (fun _ _ _ _ _ => pe_op op_cat (pv 5) (pe_lst (pa_cons (pv 6) pa_nil)))) pa_nil)))))
        (pss_one (ps_set (i := 2) scAll.nd rfl (.inl rfl) (pv 4))))))
      (pss_one (ps_ret (pv 2)))), ?_⟩
    -- every_way = [[]]
    refine ⟨Nat.zero_le _, fun z nz => ⟨(by show 1 ≤ sizeLine; decide), fun p np => ?_⟩⟩
    have npz : z ≠ p := ne_of_none upd_same np
    have s0 : Same H (upd (upd H z (.lst [])) p (.lst [.ref z])) := (same_upd nz).trans (same_upd np)
    refine ⟨.int n, rfl, n, rfl, by omega, by omega, for_range (lo := 0) (n := n.toNat) (fun i σ H1 => ∃ p us y3 y4 y5 y6, σ = [some (.int n), some (.int m), some (.ref p), y3, y4, y5, y6] ∧ Same H H1 ∧ H1 p = some (.lst us) ∧ Wls (fun _ => True) H1 us (Ks547.rows m.toNat i))
      ⟨p, _, none, none, none, none, rfl, s0, upd_same, .one trivial (by rw [upd_ne npz, upd_same]; rfl)⟩ ?_ ?_⟩
    · rintro i σ H1 hi ⟨p, us, y3, y4, y5, y6, rfl, s1, e1, w1⟩
      have hR : (Ks547.rows m.toNat i).length ≤ 20000 := by
        rw [rows_len]
        exact Nat.le_trans (Nat.pow_le_pow_right (by omega) (by omega)) hpow
      -- longer = []
      refine ⟨Nat.zero_le _, fun o no => ?_⟩
      have s2 : Same H1 (upd H1 o (.lst [])) := same_upd no
      refine ⟨.ref p, rfl, p, rfl, ⟨_, SqL.of (s2 _ _ e1)⟩, for_list (K := K) (a := p) (xs := us) (fun j σ H3 => ∃ y5 y6, σ = [some (.int n), some (.int m), some (.ref p), some (.int (0 + (i : Nat))), some (.ref o), y5, y6] ∧ Same H1 H3 ∧
          ∃ ws, H3 o = some (.lst ws) ∧ Wls (fun t => t ≠ o) H3 ws (((Ks547.rows m.toNat i).take j).flatMap fun r => (List.range m.toNat).map fun x => r ++ [x]))
        ⟨y5, y6, rfl, s2, [], upd_same, by rw [List.take_zero]; exact .nil⟩ (fun j σ H3 _ h3 => by
          obtain ⟨_, _, _, s3, _⟩ := h3
          exact SqL.of (s3 _ _ e1)) ?_ ?_⟩
      · rintro j x σ H3 hx ⟨z5, z6, rfl, s3, ws, e3, w3⟩
        obtain ⟨t, r, rfl, hr', _, kt⟩ := w1.at hx
        have kt3 := s3 _ _ kt
        have rl : r.length = i := (rows_mem.mp (List.mem_of_getElem? hr')).1
        refine ⟨.ref o, rfl, .inl ⟨rfl, _, SqL.of e3⟩, .int m, rfl, m, rfl, by omega, by omega, fun D nD => ?_⟩
        refine lc_range (lo := 0) (n := m.toNat) (fun k H4 => Same H3 H4 ∧ ∃ zs, H4 D = some (.lst zs) ∧ Wls (fun t => t ≠ o ∧ t ≠ D) H4 zs ((List.range k).map fun x => r ++ [x])) ⟨same_upd nD, [], upd_same, .nil⟩ ?_ ?_
        · rintro k H4 hk ⟨s4, zs, e4, w4⟩
          refine ⟨rfl, ?_⟩
          refine ⟨.ref t, rfl, .int (0 + (k : Nat)), rfl, (by show 1 ≤ sizeLine; decide), fun b nb => ?_⟩
          have et : (upd H4 b (.lst [.int (0 + (k : Nat))])) t = some (.lst (nums r)) := (same_upd nb) _ _ (s4 _ _ kt3)
          refine ⟨t, b, nums r, [.int (0 + (k : Nat))], rfl, rfl, et, upd_same, ?_, fun c nc => ?_⟩
          · have : (nums r).length = r.length := by
              unfold nums
              rw [List.length_map]
            rw [this, rl]
            exact Nat.le_of_lt (small_n (by show i + 1 ≤ _; omega))
          · have s5 : Same H4 (upd (upd H4 b (.lst [.int (0 + (k : Nat))])) c (.lst (nums r ++ [.int (0 + (k : Nat))]))) := (same_upd nb).trans (same_upd nc)
            have eD : (upd (upd H4 b (.lst [.int (0 + (k : Nat))])) c (.lst (nums r ++ [.int (0 + (k : Nat))]))) D = some (.lst zs) := s5 _ _ e4
            have cD : c ≠ D := fun z => by
              rw [z, upd_ne (ne_of_none e4 nb), e4] at nc
              cases nc
            have co : c ≠ o := fun z => by
              rw [z, upd_ne (ne_of_none (s4 _ _ e3) nb), s4 _ _ e3] at nc
              cases nc
            refine ⟨zs, eD, ?_, same_at (s4.trans s5) nD, _, upd_same, ?_⟩
            · rw [w4.len, List.length_map, List.length_range]
              exact small_n (by omega)
            · rw [List.range_succ, List.map_append]
              refine ((w4.same s5).mono fun t l x e => ⟨x, by rw [upd_ne x.2]; exact e⟩).app (.one ⟨co, cD⟩ ?_)
              rw [upd_ne cD, upd_same]
              unfold nums
              rw [List.map_append, Int.zero_add]
              rfl
        · rintro H4 ⟨s4, zs, e4, w4⟩
          refine ⟨o, D, ws, zs, rfl, rfl, s4 _ _ e3, e4, ?_, ?_⟩
          · rw [w3.len, w4.len, List.length_map, List.length_range]
            have hj : (((Ks547.rows m.toNat i).take j).flatMap fun r => (List.range m.toNat).map fun x => r ++ [x]).length ≤ 20000 * 30 := by
              refine Nat.le_trans (m := ((Ks547.rows m.toNat i).take j).length * m.toNat) ?_ (Nat.mul_le_mul (Nat.le_trans (List.length_take_le' _ _) hR) (by omega))
              generalize (Ks547.rows m.toNat i).take j = l
              induction l with
              | nil => simp
              | cons a l ih =>
                rw [List.flatMap_cons, List.length_append, List.length_map, List.length_range, List.length_cons, Nat.succ_mul]
                omega
            exact Nat.le_of_lt (small_n (by omega))
          · have nDo : o ≠ D := ne_of_none e3 nD
            refine ⟨_, _, rfl, same_at (s3.trans s4) no, _, upd_same, ?_⟩
            rw [take_more hr', List.flatMap_append, List.flatMap_cons, List.flatMap_nil, List.append_nil]
            refine Wls.app ((w3.same s4).mono fun t l x e => ⟨x, by rw [upd_ne x]; exact e⟩) (w4.mono fun t l x e => ⟨x.1, by rw [upd_ne x.1]; exact e⟩)
      · rintro σ H3 ⟨z5, z6, rfl, s3, ws, e3, w3⟩
        rw [w1.len, List.take_length, ← rows_snoc] at w3
        exact ⟨.ref o, rfl, o, ws, _, _, _, _, rfl, s1.trans s3, e3, w3.mono fun t l _ e => ⟨trivial, e⟩⟩
    · rintro σ H1 ⟨p, us, y3, y4, y5, y6, rfl, s1, e1, w1⟩
      exact ⟨.ref p, rfl, q H1 p us s1 e1 w1⟩
end
end Gt
/-! ### leads -/
namespace Gt
open PySem PySem.Spec PyProof.Rows L2
theorem scLea : FnScope ["one", "other", "arrows", "targets", "u", "v"] ["one", "other", "arrows", "targets"] (defScope sLea) := ⟨rfl, rfl, rfl, by decide +kernel, rfl, by decide +kernel, by decide +kernel⟩
def spLea : Sp := fun vs H Q _ => ∃ (a b c d : Addr) (one other : List Nat) (ua ut : List V) (A T : List (Int × Int)), vs = [.ref a, .ref b, .ref c, .ref d] ∧ H a = some (.lst (nums one)) ∧ H b = some (.lst (nums other)) ∧
  H c = some (.lst ua) ∧ TPs H ua A ∧ H d = some (.lst ut) ∧ TPs H ut T ∧ A.length ≤ 1000 ∧ (∀ p ∈ A, (0 ≤ p.1 ∧ p.1 < one.length) ∧ 0 ≤ p.2 ∧ p.2 < other.length) ∧
  ∀ H' : Hp, Same H H' → Q (.bl (lead A T one other)) H'
theorem lead_more {A T : List (Int × Int)} {one other : List Nat} {i : Nat} {p : Int × Int} (h : A[i]? = some p) :
    lead (A.take (i + 1)) T one other = (lead (A.take i) T one other && decide ((((one.getD p.1.toNat 0 : Nat) : Int), ((other.getD p.2.toNat 0 : Nat) : Int)) ∈ T)) := by
  unfold lead
  rw [take_more h, List.all_append]
  simp
theorem lead_no {A T : List (Int × Int)} {one other : List Nat} {p : Int × Int} (h : p ∈ A) (n : ¬ (((one.getD p.1.toNat 0 : Nat) : Int), ((other.getD p.2.toNat 0 : Nat) : Int)) ∈ T) : lead A T one other = false := by
  cases e : lead A T one other with
  | false => rfl
  | true =>
    unfold lead at e
    exact absurd (of_decide_eq_true (List.all_eq_true.mp e p h)) n
section
variable {P : Program} {w : World} {K : PySem.W.Frag} {mg : Str → Option Value} {base : Heap}
theorem ok_lea {f : Addr} {fd : FuncData} {k : Nat} (F : Fun K "leads" "leads" sLea f fd) : FnOk P w K mg base CX0 (k + 1) f fd ["one", "other", "arrows", "targets"] spLea := by
  refine F.ok scLea (fun vs H Q E h => ?_) (fun cdv A outer s H vs Q E hr h => ?_)
  · obtain ⟨a, b, c, d, one, other, ua, ut, A, T, rfl, _⟩ := h
    rfl
  · obtain ⟨a, b, c, d, one, other, ua, ut, A, T, rfl, ha, hb, hc, tc, hd, td, hlen, hin, q⟩ := h
    refine ⟨_, pss_cons (ps_for PassesOwn.never rfl (pi_list (pv 2)) (pg_tup rfl (pgs_cons (pg_name (i := 4) scLea.nd rfl (.inl rfl)) (pgs_cons (pg_name (i := 5) scLea.nd rfl (.inl rfl)) pgs_nil)))
        (pss_one (ps_if (pt_cmpR (r := rNotInD K) (op_notInD (units65 hr)) (pe_tup (pa_cons (pe_ix (r := rIxL K) ix_list (pv 0) (pv 4) (fun _ _ => rfl)) (pa_cons (pe_ix (r := rIxL K) ix_list (pv 1) (pv 5) (fun _ _ => rfl)) pa_nil))) (pv 3) (by rfl))
          (pss_one (ps_ret pe_bl)) pss_nil)))
      (pss_one (ps_ret pe_bl)), ?_⟩
    refine ⟨.ref c, rfl, c, rfl, ⟨_, SqL.of hc⟩, for_list (K := K) (a := c) (xs := ua) (fun i σ H1 => ∃ y4 y5, σ = [some (.ref a), some (.ref b), some (.ref c), some (.ref d), y4, y5] ∧ Same H H1 ∧ lead (A.take i) T one other = true)
      ⟨none, none, rfl, Same.refl H, rfl⟩ (fun i σ H1 _ h1 => by
        obtain ⟨_, _, _, s1, _⟩ := h1
        exact SqL.of (s1 _ _ hc)) ?_ ?_⟩
    · rintro i x σ H1 hx ⟨y4, y5, rfl, s1, e1⟩
      obtain ⟨t, p, rfl, hp, kt⟩ := tc.at hx
      have hin1 := hin p (List.mem_of_getElem? hp)
      refine ⟨t, [.int p.1, .int p.2], rfl, SqT.of (s1 _ _ kt), rfl, .int p.1, [.int p.2], rfl, .int p.2, [], rfl, rfl, ?_⟩
      refine ⟨.ref a, rfl, .int p.1, rfl, a, _, p.1, _, rfl, rfl, SqL.of (s1 _ _ ha), at_of (j := p.1.toNat) (by omega) (nums_at (by omega)), ?_⟩
      refine ⟨.ref b, rfl, .int p.2, rfl, b, _, p.2, _, rfl, rfl, SqL.of (s1 _ _ hb), at_of (j := p.2.toNat) (by omega) (nums_at (by omega)), ?_⟩
      refine ⟨(by show 2 ≤ sizeLine; decide), fun z nz => ?_⟩
      have s2 : Same H1 (upd H1 z (.tup [.int ((one.getD p.1.toNat 0 : Nat) : Int), .int ((other.getD p.2.toNat 0 : Nat) : Int)])) := same_upd nz
      refine ⟨.ref d, rfl, dP (((one.getD p.1.toNat 0 : Nat) : Int), ((other.getD p.2.toNat 0 : Nat) : Int)), T.map dP, .tup (SqT.of upd_same) (.cons (.int _) (.cons (.int _) .nil)), .lst (SqL.of (s2 _ _ (s1 _ _ hd))) ((td.mono (KT.of (s1.trans s2))).dp), dP_shaped _, dPs_shaped _, ?_⟩
      refine ⟨_, rfl, ite2 (fun c1 => ?_) (fun c1 => ?_)⟩
      · rw [dP_any] at c1
        have n1 : ¬ (((one.getD p.1.toNat 0 : Nat) : Int), ((other.getD p.2.toNat 0 : Nat) : Int)) ∈ T := fun z => by
          rw [decide_eq_true z] at c1
          cases c1
        exact lead_no (List.mem_of_getElem? hp) n1 ▸ q _ (s1.trans s2)
      · rw [dP_any] at c1
        refine ⟨_, _, rfl, s1.trans s2, ?_⟩
        rw [lead_more hp, e1, Bool.true_and]
        simpa using c1
    · rintro σ H1 ⟨y4, y5, rfl, s1, e1⟩
      rw [tc.len, List.take_length] at e1
      exact e1 ▸ q H1 s1
end
end Gt
/-! ### arrows_between -/
namespace Gt
open PySem PySem.Spec PyProof.Rows L2
theorem scBtw : FnScope ["every_way", "arrows", "targets", "between", "k", "one", "j", "other"] ["every_way", "arrows", "targets"] (defScope sBtw) := ⟨rfl, rfl, rfl, by decide +kernel, rfl, by decide +kernel, by decide +kernel⟩
def spBtw : Sp := fun vs H Q _ => ∃ (a c d : Addr) (n : Int) (us ua ut : List V) (R : List (List Nat)) (A T : List (Int × Int)), vs = [.ref a, .ref c, .ref d] ∧ H a = some (.lst us) ∧ Wls (fun _ => True) H us R ∧
  H c = some (.lst ua) ∧ TPs H ua A ∧ H d = some (.lst ut) ∧ TPs H ut T ∧ A.length ≤ 1000 ∧ R.length ≤ 100 ∧ (∀ r ∈ R, (r.length : Int) = n) ∧ (∀ p ∈ A, (0 ≤ p.1 ∧ p.1 < n) ∧ 0 ≤ p.2 ∧ p.2 < n) ∧
  ∀ (H' : Hp) (p : Addr) (vs : List V), Same H H' → H' p = some (.lst vs) → TPs H' vs (btw R A T R.length) → Q (.ref p) H'
section
variable {P : Program} {w : World} {K : PySem.W.Frag} {mg : Str → Option Value} {base : Heap}
theorem ok_btw {f fL : Addr} {fd fdL : FuncData} {k : Nat} (F : Fun K "arrows_between" "arrows_between" sBtw f fd) (FL : Fun K "leads" "leads" sLea fL fdL) (bL : Binds K fdL ["one", "other", "arrows", "targets"] []) (gL : mg "leads" = some (.ref fL))
    (me : mg "enumerate" = none) : FnOk P w K mg base CX0 (k + 2) f fd ["every_way", "arrows", "targets"] spBtw := by
  have GL : FnOk P w K mg base CX0 (k + 1) fL fdL ["one", "other", "arrows", "targets"] spLea := ok_lea FL
  refine F.ok scBtw (fun vs H Q E h => ?_) (fun cdv A outer s H vs Q E hr h => ?_)
  · obtain ⟨a, c, d, n, us, ua, ut, R, A, T, rfl, _⟩ := h
    rfl
  · obtain ⟨a, c, d, n, us, ua, ut, R, A, T, rfl, ha, wa, hc, tc, hd, td, hlen, hR, hRn, hin, q⟩ := h
    refine ⟨_, pss_cons (ps_set (i := 3) scBtw.nd rfl (.inl rfl) (pe_lst pa_nil))
      (pss_cons (ps_for PassesOwn.never rfl (pi_enum (by rfl) me (pa_cons (pv 0) pa_nil)) (pg_tup rfl (pgs_cons (pg_name (i := 4) scBtw.nd rfl (.inl rfl)) (pgs_cons (pg_name (i := 5) scBtw.nd rfl (.inl rfl)) pgs_nil)))
        (pss_one (ps_for PassesOwn.never rfl (pi_enum (by rfl) me (pa_cons (pv 0) pa_nil)) (pg_tup rfl (pgs_cons (pg_name (i := 6) scBtw.nd rfl (.inl rfl)) (pgs_cons (pg_name (i := 7) scBtw.nd rfl (.inl rfl)) pgs_nil)))
          (pss_one (ps_if (pt_val (pe_call GL hr (by rfl) gL FL.kp bL .nil pass0 (pa_cons (pv 5) (pa_cons (pv 7) (pa_cons (pv 1) (pa_cons (pv 2) pa_nil))))))
            (pss_one (ps_expr (pe_bm PySem.F.plainAttrs_list PySem.F.slot_list_append PySem.F.type_list_append mt_append (pv 3) (pa_cons (pe_tup (pa_cons (pv 4) (pa_cons (pv 6) pa_nil))) pa_nil)))) pss_nil)))))
      (pss_one (ps_ret (pv 3)))), ?_⟩
    have wl := wa.len
    -- between = []
    refine ⟨Nat.zero_le _, fun o no => ?_⟩
    have s0 : Same H (upd H o (.lst [])) := same_upd no
    refine ⟨.ref a, rfl, a, us, rfl, SqL.of (s0 _ _ ha), for_it (walk_enum (K := K) (a := a) (xs := us)) (fun i σ H1 => ∃ y4 y5 y6 y7, σ = [some (.ref a), some (.ref c), some (.ref d), some (.ref o), y4, y5, y6, y7] ∧ Same H H1 ∧ ∃ ws, H1 o = some (.lst ws) ∧ TPs H1 ws (btw R A T i))
      ⟨none, none, none, none, rfl, s0, [], upd_same, .nil⟩ (fun i σ H1 _ h1 => by
        obtain ⟨_, _, _, _, _, s1, _⟩ := h1
        exact SqL.of (s1 _ _ ha)) ?_ ?_⟩
    · rintro i x σ H1 H2 hi ⟨y4, y5, y6, y7, rfl, s1, ws, e1, t1⟩ ⟨T1, v1, x1, rfl, nT1, rfl, f1, g1⟩
      cases Option.some.inj f1
      obtain ⟨t, r, rfl, hr1, _, kt⟩ := wa.at g1
      have sT : Same H1 (upd H1 T1 (.tup [.int (i : Nat), .ref t])) := same_upd nT1
      have ri : R.getD i [] = r := by rw [List.getD_eq_getElem?_getD, hr1]; rfl
      have rn := hRn r (List.mem_of_getElem? hr1)
      refine ⟨T1, [.int (i : Nat), .ref t], rfl, SqT.of upd_same, rfl, .int (i : Nat), [.ref t], rfl, .ref t, [], rfl, rfl, ?_⟩
      refine ⟨.ref a, rfl, a, us, rfl, SqL.of ((s1.trans sT) _ _ ha), for_it (walk_enum (K := K) (a := a) (xs := us)) (fun j σ H3 => ∃ y6 y7, σ = [some (.ref a), some (.ref c), some (.ref d), some (.ref o), some (.int (i : Nat)), some (.ref t), y6, y7] ∧ Same H H3 ∧ ∃ ws, H3 o = some (.lst ws) ∧ TPs H3 ws (btw R A T i ++ from_ R A T i j))
        ⟨y6, y7, rfl, s1.trans sT, ws, sT _ _ e1, by
          rw [show from_ R A T i 0 = [] from rfl, List.append_nil]
          exact t1.mono (KT.of sT)⟩ (fun j σ H3 _ h3 => by
          obtain ⟨_, _, _, s3, _⟩ := h3
          exact SqL.of (s3 _ _ ha)) ?_ ?_⟩
      · rintro j x σ H3 H4 hj ⟨z6, z7, rfl, s3, ws3, e3, t3⟩ ⟨T2, v2, x2, rfl, nT2, rfl, f2, g2⟩
        cases Option.some.inj f2
        obtain ⟨t', r', rfl, hr2, _, kt'⟩ := wa.at g2
        have sT2 : Same H3 (upd H3 T2 (.tup [.int (j : Nat), .ref t'])) := same_upd nT2
        have rj : R.getD j [] = r' := by rw [List.getD_eq_getElem?_getD, hr2]; rfl
        have rn' := hRn r' (List.mem_of_getElem? hr2)
        have s4 := s3.trans sT2
        refine ⟨T2, [.int (j : Nat), .ref t'], rfl, SqT.of upd_same, rfl, .int (j : Nat), [.ref t'], rfl, .ref t', [], rfl, rfl, ?_⟩
        refine ⟨.ref t, rfl, .ref t', rfl, .ref c, rfl, .ref d, rfl, t, t', c, d, r, r', ua, ut, A, T, rfl, s4 _ _ kt, s4 _ _ kt', s4 _ _ hc, tc.mono (KT.of s4), s4 _ _ hd, td.mono (KT.of s4), hlen, fun p hp => ?_, fun H5 s5 => ⟨_, rfl, ite2 (fun c1 => ?_) (fun c1 => ?_)⟩⟩
        · have := hin p hp
          omega
        · -- between.append((k, j))
          have e5 : H5 o = some (.lst ws3) := s5 _ _ (sT2 _ _ e3)
          refine ⟨.ref o, rfl, .inl ⟨rfl, _, SqL.of e5⟩, .int (i : Nat), rfl, .int (j : Nat), rfl, (by show 2 ≤ sizeLine; decide), fun T3 nT3 => ?_⟩
          have s6 : Same H5 (upd H5 T3 (.tup [.int (i : Nat), .int (j : Nat)])) := same_upd nT3
          have e6 := s6 _ _ e5
          refine ⟨o, ws3, .ref T3, rfl, rfl, e6, ?_, some (.int (j : Nat)), some (.ref t'), rfl, same_at (s4.trans (s5.trans s6)) no, _, upd_same, ?_⟩
          · have b1 := btw_len R A T i
            have b2 := from_len R A T i j
            have b3 : i * R.length ≤ 100 * 100 := Nat.mul_le_mul (by omega) hR
            rw [t3.len, List.length_append]
            exact small_n (by omega)
          · rw [from_more, ri, rj, if_pos c1, ← List.append_assoc]
            refine ((t3.mono (KT.of (sT2.trans (s5.trans s6)))).mono (KT.lst e6)).app (TPs.one (p := ((i : Int), (j : Int))) ?_)
            exact KT.lst e6 _ _ upd_same
        · refine ⟨some (.int (j : Nat)), some (.ref t'), rfl, s4.trans s5, ws3, s5 _ _ (sT2 _ _ e3), ?_⟩
          rw [from_more, ri, rj, if_neg c1, List.append_nil]
          exact t3.mono (KT.of (sT2.trans s5))
      · rintro σ H3 ⟨z6, z7, rfl, s3, ws3, e3, t3⟩
        rw [wl, ← btw_more] at t3
        exact ⟨_, _, _, _, rfl, s3, ws3, e3, t3⟩
    · rintro σ H1 ⟨y4, y5, y6, y7, rfl, s1, ws, e1, t1⟩
      rw [wl] at t1
      exact ⟨.ref o, rfl, q H1 o ws s1 e1 t1⟩
end
end Gt
namespace Gt
open PySem PySem.Spec PyProof.Rows L2
theorem scWay : FnScope ["n", "m", "first", "second", "every_way"] ["n", "m", "first", "second"] (defScope sWay) := ⟨rfl, rfl, rfl, by decide +kernel, rfl, by decide +kernel, by decide +kernel⟩
def spWay (K : PySem.W.Frag) : Sp := fun vs H Q _ => ∃ (n m : Int) (a b : Addr) (ns ms : List Int), vs = [.int n, .int m, .ref a, .ref b] ∧ SqL K H a (ns.map V.int) ∧ SqL K H b (ms.map V.int) ∧ ns.length ≤ 60 ∧ ms.length ≤ 60 ∧ (∀ x ∈ ns, 0 ≤ x) ∧
  ∀ (H' : Hp) (p : Addr), H' p = some (.lst ((waysM n m ns ms).map V.int)) → Q (.ref p) H'
section
variable {P : Program} {w : World} {K : PySem.W.Frag} {mg : Str → Option Value} {base : Heap}
theorem ok_way {f fG fR fA fS fC fE fL fB : Addr} {fd fdG fdR fdA fdS fdC fdE fdL fdB : FuncData} {t0 t1 t2 t3 : Tok} (F : Fun K "ways" "ways" sWay f fd)
    (FG : Fun K "is_graph" "is_graph" sIsG fG fdG) (bG : Binds K fdG ["places", "told"] []) (gG : mg "is_graph" = some (.ref fG))
    (FR : Fun K "is_rising" "is_rising" sRis fR fdR) (bR : Binds K fdR ["arrows"] []) (gR : mg "is_rising" = some (.ref fR))
    (FA : Fun K "arrows_of" "arrows_of" sArr fA fdA) (bA : Binds K fdA ["told"] []) (gA : mg "arrows_of" = some (.ref fA))
    (FS : Fun K "answer" "answer" sAns fS fdS) (bS : Binds K fdS ["places", "arrows"] []) (gS : mg "answer" = some (.ref fS))
    (FC : Fun K "number_of_ways" "number_of_ways" sCnt fC fdC) (bC : Binds K fdC ["n", "m"] []) (gC : mg "number_of_ways" = some (.ref fC))
    (FE : Fun K "all_ways" "all_ways" sAll fE fdE) (bE : Binds K fdE ["n", "m"] []) (gE : mg "all_ways" = some (.ref fE))
    (FL : Fun K "leads" "leads" sLea fL fdL) (bL : Binds K fdL ["one", "other", "arrows", "targets"] []) (gL : mg "leads" = some (.ref fL))
    (FB : Fun K "arrows_between" "arrows_between" sBtw fB fdB) (bB : Binds K fdB ["every_way", "arrows", "targets"] []) (gB : mg "arrows_between" = some (.ref fB))
    (gP : mg "MOST_PLACES" = some (.int (5) t0))
    (gN : mg "NO_GRAPH" = some (.int (-22) t1))
    (gW : mg "MOST_WAYS" = some (.int (27) t2))
    (gT : mg "TOO_MANY" = some (.int (-75) t3))
    (mr : mg "range" = none) (ml : mg "len" = none) (ma : mg "all" = none) (me : mg "enumerate" = none) :
    FnOk P w K mg base CX0 3 f fd ["n", "m", "first", "second"] (spWay K) := by
  have GG : FnOk P w K mg base CX0 2 fG fdG ["places", "told"] (spIsG K) := ok_isg (k := 0) FG FA bA gA FR bR gR gP mr ml ma
  have GA : FnOk P w K mg base CX0 2 fA fdA ["told"] (spArr K) := ok_arr FA mr ml
  have GS : FnOk P w K mg base CX0 2 fS fdS ["places", "arrows"] spAns := ok_ans FS ml
  have GC : FnOk P w K mg base CX0 2 fC fdC ["n", "m"] spCnt := ok_cnt FC mr
  have GE : FnOk P w K mg base CX0 2 fE fdE ["n", "m"] spAll := ok_all FE mr
  have GB : FnOk P w K mg base CX0 2 fB fdB ["every_way", "arrows", "targets"] spBtw := ok_btw (k := 0) FB FL bL gL me
  refine F.ok scWay (fun vs H Q E h => ?_) (fun cdv A outer s H vs Q E hr h => ?_)
  · obtain ⟨n, m, a, b, ns, ms, rfl, _⟩ := h
    rfl
  · obtain ⟨n, m, a, b, ns, ms, rfl, hA, hB, la, lb, pn, q⟩ := h
    refine ⟨_, pss_cons (ps_if (pt_not (pw_and (pt_val (pe_call GG hr (by rfl) gG FG.kp bG .nil pass0 (pa_cons (pv 0) (pa_cons (pv 2) pa_nil)))) (pw_and1 (pt_val (pe_call GG hr (by rfl) gG FG.kp bG .nil pass0 (pa_cons (pv 1) (pa_cons (pv 3) pa_nil)))))).pt)
        (pss_one (ps_ret (pe_lst (pa_cons (pe_glob (v := .int (-22)) (by rfl) gN ⟨_, rfl⟩) pa_nil)))) pss_nil)
      (pss_cons (ps_if (pt_cmpR op_gt (pe_call GC hr (by rfl) gC FC.kp bC .nil pass0 (pa_cons (pv 0) (pa_cons (pv 1) pa_nil))) (pe_glob (v := .int 27) (by rfl) gW ⟨_, rfl⟩) (nomark _))
        (pss_one (ps_ret (pe_lst (pa_cons (pe_glob (v := .int (-75)) (by rfl) gT ⟨_, rfl⟩) pa_nil)))) pss_nil)
      (pss_cons (ps_set (i := 4) scWay.nd rfl (.inl rfl) (pe_call GE hr (by rfl) gE FE.kp bE .nil pass0 (pa_cons (pv 0) (pa_cons (pv 1) pa_nil))))
      (pss_one (ps_ret (pe_call GS hr (by rfl) gS FS.kp bS .nil pass0 (pa_cons (pe_callB call_len_seq (by rfl) ml PySem.boot_len (pa_cons (pv 4) pa_nil)) (pa_cons (pe_call GB hr (by rfl) gB FB.kp bB .nil pass0 (pa_cons (pv 4) (pa_cons (pe_call GA hr (by rfl) gA FA.kp bA .nil pass0 (pa_cons (pv 2) pa_nil)) (pa_cons (pe_call GA hr (by rfl) gA FA.kp bA .nil pass0 (pa_cons (pv 3) pa_nil)) pa_nil)))) pa_nil))))))), ?_⟩
    have no : (isG n ns && isG m ms) = false → ∀ (H1 : Hp), ∀ p, H1 p = none → Q (.ref p) (upd H1 p (.lst [.int (-22)])) := fun e H1 p _ => by
      refine q _ p ?_
      rw [upd_same]
      unfold waysM
      rw [if_neg (by rw [e]; decide)]
      rfl
    refine ⟨.int n, rfl, .ref a, rfl, n, a, ns, rfl, hA, by omega, fun H1 s1 => ⟨_, rfl, ite2 (fun c1 => ?_) (fun c1 => iteT ⟨(by show 1 ≤ sizeLine; decide), no (by rw [Bool.eq_false_iff.mpr c1, Bool.false_and]) H1⟩)⟩⟩
    refine ⟨.int m, rfl, .ref b, rfl, m, b, ms, rfl, s1.seq hB, by omega, fun H2 s2 => ⟨_, rfl, ite2 (fun c2 => ⟨(by show 1 ≤ sizeLine; decide), no (by rw [nt1 c2, Bool.and_false]) H2⟩) (fun c2 => ?_)⟩⟩
    have e : isG m ms = true := nt2 c2
    have n5 := (isG_iff.mp c1).1
    have m5 := (isG_iff.mp e).1
    have evA := (isG_iff.mp c1).2.1
    have evB := (isG_iff.mp e).2.1
    have s12 := s1.trans s2
    -- number_of_ways(n, m) > MOST_WAYS
    refine ⟨.int n, rfl, .int m, rfl, n, m, rfl, n5, m5, _, 27, rfl, rfl, _, rfl, ite2 (fun c3 => ?_) (fun c3 => ?_)⟩
    · have c4 : 27 < m.toNat ^ n.toNat := by
        have := of_decide_eq_true c3
        omega
      refine ⟨(by show 1 ≤ sizeLine; decide), fun p _ => q _ p ?_⟩
      rw [upd_same]
      unfold waysM
      rw [if_pos (by rw [c1, e]; rfl), if_pos c4]
      rfl
    · have c4 : ¬ 27 < m.toNat ^ n.toNat := fun z => c3 (decide_eq_true (by omega))
      have hR : (Ks547.rows m.toNat n.toNat).length ≤ 100 := by
        rw [rows_len]
        omega
      -- every_way = all_ways(n, m)
      refine ⟨.int n, rfl, .int m, rfl, n, m, rfl, by omega, by omega, by omega, fun H3 p us s3 e3 w3 => ?_⟩
      have s13 := s12.trans s3
      refine ⟨.ref p, rfl, p, us, rfl, .inl (SqL.of e3), .ref p, rfl, ?_⟩
      refine ⟨.ref a, rfl, a, ns, rfl, s13.seq hA, by omega, evA, fun H4 p4 us4 s4 _ e4 t4 => ?_⟩
      refine ⟨.ref b, rfl, b, ms, rfl, (s13.trans s4).seq hB, by omega, evB, fun H5 p5 us5 s5 _ e5 t5 => ?_⟩
      have s35 := s4.trans s5
      refine ⟨p, p4, p5, n, us, us4, us5, Ks547.rows m.toNat n.toNat, prs ns, prs ms, rfl, s35 _ _ e3, w3.same s35, s5 _ _ e4, t4.mono (KT.of s5), e5, t5, by rw [prs_len]; omega, hR, fun r hr' => ?_, rng_of c1 pn, fun H6 p6 us6 _ e6 t6 => ?_⟩
      · rw [(rows_mem.mp hr').1]
        omega
      · refine ⟨_, p6, us6, _, rfl, e6, t6, ?_, fun H7 p7 e7 => q H7 p7 ?_⟩
        · have b1 := btw_len (Ks547.rows m.toNat n.toNat) (prs ns) (prs ms) (Ks547.rows m.toNat n.toNat).length
          have b2 : (Ks547.rows m.toNat n.toNat).length * (Ks547.rows m.toNat n.toNat).length ≤ 100 * 100 := Nat.mul_le_mul hR hR
          omega
        · unfold waysM
          rw [if_pos (by rw [c1, e]; rfl), if_neg c4, ← w3.len]
          rw [← w3.len] at e7
          exact e7
end
theorem all_mk {P : Program} {w : World} {K : PySem.W.Frag} {h : Heap} {mg : Str → Option Value} {fa f1 f2 f3 f4 f5 f6 f7 f8 f9 : Addr} {t0 t1 t2 t3 : Tok} (X : K.In h) (G : h.Ns mainGlobals mg) (hfa : mg "ways" = some (.ref fa))
    {od1 an1 od2 an2 od3 an3 od4 an4 od5 an5 od6 an6 od7 an7 od8 an8 od9 an9 : Option Addr} {sl1 sl2 sl3 sl4 sl5 sl6 sl7 sl8 sl9 : Array (Option Value)} {oc1 kV1 dc1 pm1 cd1 ct1 oc2 kV2 dc2 pm2 cd2 ct2 oc3 kV3 dc3 pm3 cd3 ct3 oc4 kV4 dc4 pm4 cd4 ct4 oc5 kV5 dc5 pm5 cd5 ct5 oc6 kV6 dc6 pm6 cd6 ct6 oc7 kV7 dc7 pm7 cd7 ct7 oc8 kV8 dc8 pm8 cd8 ct8 oc9 kV9 dc9 pm9 cd9 ct9 : Value}
    (a1 : PySem.W.nsIn K mainGlobals "ways" = some (some (.ref f1))) (l1 : K.lookup f1 = some ⟨oc1, od1, .func (PySem.W.fnOf "ways" "ways" (defArgs sWay) (defBody sWay) (defScope sWay) .none kV1 dc1 pm1 an1 cd1 ct1), sl1⟩) (c1 : PySem.W.codeIn K cd1 "ways" = true) (k1 : PySem.W.keepIn K (.ref f1) = true)
    (a2 : PySem.W.nsIn K mainGlobals "is_graph" = some (some (.ref f2))) (l2 : K.lookup f2 = some ⟨oc2, od2, .func (PySem.W.fnOf "is_graph" "is_graph" (defArgs sIsG) (defBody sIsG) (defScope sIsG) .none kV2 dc2 pm2 an2 cd2 ct2), sl2⟩) (c2 : PySem.W.codeIn K cd2 "is_graph" = true) (k2 : PySem.W.keepIn K (.ref f2) = true)
    (a3 : PySem.W.nsIn K mainGlobals "is_rising" = some (some (.ref f3))) (l3 : K.lookup f3 = some ⟨oc3, od3, .func (PySem.W.fnOf "is_rising" "is_rising" (defArgs sRis) (defBody sRis) (defScope sRis) .none kV3 dc3 pm3 an3 cd3 ct3), sl3⟩) (c3 : PySem.W.codeIn K cd3 "is_rising" = true) (k3 : PySem.W.keepIn K (.ref f3) = true)
    (a4 : PySem.W.nsIn K mainGlobals "arrows_of" = some (some (.ref f4))) (l4 : K.lookup f4 = some ⟨oc4, od4, .func (PySem.W.fnOf "arrows_of" "arrows_of" (defArgs sArr) (defBody sArr) (defScope sArr) .none kV4 dc4 pm4 an4 cd4 ct4), sl4⟩) (c4 : PySem.W.codeIn K cd4 "arrows_of" = true) (k4 : PySem.W.keepIn K (.ref f4) = true)
    (a5 : PySem.W.nsIn K mainGlobals "answer" = some (some (.ref f5))) (l5 : K.lookup f5 = some ⟨oc5, od5, .func (PySem.W.fnOf "answer" "answer" (defArgs sAns) (defBody sAns) (defScope sAns) .none kV5 dc5 pm5 an5 cd5 ct5), sl5⟩) (c5 : PySem.W.codeIn K cd5 "answer" = true) (k5 : PySem.W.keepIn K (.ref f5) = true)
    (a6 : PySem.W.nsIn K mainGlobals "number_of_ways" = some (some (.ref f6))) (l6 : K.lookup f6 = some ⟨oc6, od6, .func (PySem.W.fnOf "number_of_ways" "number_of_ways" (defArgs sCnt) (defBody sCnt) (defScope sCnt) .none kV6 dc6 pm6 an6 cd6 ct6), sl6⟩) (c6 : PySem.W.codeIn K cd6 "number_of_ways" = true) (k6 : PySem.W.keepIn K (.ref f6) = true)
    (a7 : PySem.W.nsIn K mainGlobals "all_ways" = some (some (.ref f7))) (l7 : K.lookup f7 = some ⟨oc7, od7, .func (PySem.W.fnOf "all_ways" "all_ways" (defArgs sAll) (defBody sAll) (defScope sAll) .none kV7 dc7 pm7 an7 cd7 ct7), sl7⟩) (c7 : PySem.W.codeIn K cd7 "all_ways" = true) (k7 : PySem.W.keepIn K (.ref f7) = true)
    (a8 : PySem.W.nsIn K mainGlobals "leads" = some (some (.ref f8))) (l8 : K.lookup f8 = some ⟨oc8, od8, .func (PySem.W.fnOf "leads" "leads" (defArgs sLea) (defBody sLea) (defScope sLea) .none kV8 dc8 pm8 an8 cd8 ct8), sl8⟩) (c8 : PySem.W.codeIn K cd8 "leads" = true) (k8 : PySem.W.keepIn K (.ref f8) = true)
    (a9 : PySem.W.nsIn K mainGlobals "arrows_between" = some (some (.ref f9))) (l9 : K.lookup f9 = some ⟨oc9, od9, .func (PySem.W.fnOf "arrows_between" "arrows_between" (defArgs sBtw) (defBody sBtw) (defScope sBtw) .none kV9 dc9 pm9 an9 cd9 ct9), sl9⟩) (c9 : PySem.W.codeIn K cd9 "arrows_between" = true) (k9 : PySem.W.keepIn K (.ref f9) = true)
    (gq0 : PySem.W.nsIn K mainGlobals "MOST_PLACES" = some (some (.int (5) t0)))
    (gq1 : PySem.W.nsIn K mainGlobals "NO_GRAPH" = some (some (.int (-22) t1)))
    (gq2 : PySem.W.nsIn K mainGlobals "MOST_WAYS" = some (some (.int (27) t2)))
    (gq3 : PySem.W.nsIn K mainGlobals "TOO_MANY" = some (some (.int (-75) t3)))
    (zq0 : PySem.W.nsIn K mainGlobals "range" = some none)
    (zq1 : PySem.W.nsIn K mainGlobals "len" = some none)
    (zq2 : PySem.W.nsIn K mainGlobals "all" = some none)
    (zq3 : PySem.W.nsIn K mainGlobals "enumerate" = some none) :
    ∃ fd : FuncData, (∀ (s : Shared) (us : List Value), us.length = (["n", "m", "first", "second"] : List Str).length → BindsTo s fd ⟨us, []⟩ ((["n", "m", "first", "second"] : List Str).zip us)) ∧ ∀ base : Heap, K.In base → base.Ns mainGlobals mg → FnOk P w K mg base CX0 3 fa fd ["n", "m", "first", "second"] (spWay K) := by
  have e := hfa.symm.trans (PySem.W.mg_of X G a1)
  cases e
  have F1 := fun_mk (st := sWay) l1 c1 k1
  have F2 := fun_mk (st := sIsG) l2 c2 k2
  have F3 := fun_mk (st := sRis) l3 c3 k3
  have F4 := fun_mk (st := sArr) l4 c4 k4
  have F5 := fun_mk (st := sAns) l5 c5 k5
  have F6 := fun_mk (st := sCnt) l6 c6 k6
  have F7 := fun_mk (st := sAll) l7 c7 k7
  have F8 := fun_mk (st := sLea) l8 c8 k8
  have F9 := fun_mk (st := sBtw) l9 c9 k9
  have b2 := F2.binds (ps := ["places", "told"]) fun _ _ _ _ _ _ us hl => match us, hl with | [_, _], _ => rfl
  have b3 := F3.binds (ps := ["arrows"]) fun _ _ _ _ _ _ us hl => match us, hl with | [_], _ => rfl
  have b4 := F4.binds (ps := ["told"]) fun _ _ _ _ _ _ us hl => match us, hl with | [_], _ => rfl
  have b5 := F5.binds (ps := ["places", "arrows"]) fun _ _ _ _ _ _ us hl => match us, hl with | [_, _], _ => rfl
  have b6 := F6.binds (ps := ["n", "m"]) fun _ _ _ _ _ _ us hl => match us, hl with | [_, _], _ => rfl
  have b7 := F7.binds (ps := ["n", "m"]) fun _ _ _ _ _ _ us hl => match us, hl with | [_, _], _ => rfl
  have b8 := F8.binds (ps := ["one", "other", "arrows", "targets"]) fun _ _ _ _ _ _ us hl => match us, hl with | [_, _, _, _], _ => rfl
  have b9 := F9.binds (ps := ["every_way", "arrows", "targets"]) fun _ _ _ _ _ _ us hl => match us, hl with | [_, _, _], _ => rfl
  exact ⟨_, fun s us hu => match us, hu with | [_, _, _, _], _ => .of_eq rfl, fun base _ _ => ok_way F1 F2 b2 (PySem.W.mg_of X G a2) F3 b3 (PySem.W.mg_of X G a3) F4 b4 (PySem.W.mg_of X G a4) F5 b5 (PySem.W.mg_of X G a5) F6 b6 (PySem.W.mg_of X G a6) F7 b7 (PySem.W.mg_of X G a7) F8 b8 (PySem.W.mg_of X G a8) F9 b9 (PySem.W.mg_of X G a9)
    (PySem.W.mg_of X G gq0) (PySem.W.mg_of X G gq1) (PySem.W.mg_of X G gq2) (PySem.W.mg_of X G gq3) (PySem.W.mg_none_of X G zq0) (PySem.W.mg_none_of X G zq1) (PySem.W.mg_none_of X G zq2) (PySem.W.mg_none_of X G zq3)⟩
end Gt
open PySem PySem.W PyProof.Rows
set_option maxRecDepth 100000 in
set_option maxHeartbeats 8000000 in
theorem PySem.Challenge.cw_graphstogether_s03_ways_holds : PySem.Challenge.rw_graphstogether_s03_ways.Holds := by
  w_on; k_headS; (case hw => exact ⟨[.int 0, .int 0, .list [], .list []], by decide +kernel, by decide +kernel⟩)
  k_fillS
  refine L2.walk_specK (r := PySem.Challenge.rw_graphstogether_s03_ways) (k := 3) (CX := L2.CX0) (ps := ["n", "m", "first", "second"]) (sp := Gt.spWay) (by decide +kernel) rfl rfl ⟨rfl, by decide, by decide⟩ (fun w h Y => PySem.W.kIn_of Y) ?F ?S (fun _ _ _ _ z => z)
  case F =>
    intro w mg fa h Y KX G hmg
    refine' Gt.all_mk KX G hmg ?a1 ?l1 ?c1 ?k1 ?a2 ?l2 ?c2 ?k2 ?a3 ?l3 ?c3 ?k3 ?a4 ?l4 ?c4 ?k4 ?a5 ?l5 ?c5 ?k5 ?a6 ?l6 ?c6 ?k6 ?a7 ?l7 ?c7 ?k7 ?a8 ?l8 ?c8 ?k8 ?a9 ?l9 ?c9 ?k9 ?gq0 ?gq1 ?gq2 ?gq3 ?zq0 ?zq1 ?zq2 ?zq3
    (case a1 => k_is); (case l1 => k_is); (case c1 => k_is); (case k1 => k_is)
    (case a2 => k_is); (case l2 => k_is); (case c2 => k_is); (case k2 => k_is)
    (case a3 => k_is); (case l3 => k_is); (case c3 => k_is); (case k3 => k_is)
    (case a4 => k_is); (case l4 => k_is); (case c4 => k_is); (case k4 => k_is)
    (case a5 => k_is); (case l5 => k_is); (case c5 => k_is); (case k5 => k_is)
    (case a6 => k_is); (case l6 => k_is); (case c6 => k_is); (case k6 => k_is)
    (case a7 => k_is); (case l7 => k_is); (case c7 => k_is); (case k7 => k_is)
    (case a8 => k_is); (case l8 => k_is); (case c8 => k_is); (case k8 => k_is)
    (case a9 => k_is); (case l9 => k_is); (case c9 => k_is); (case k9 => k_is)
    (case gq0 => k_is); (case gq1 => k_is); (case gq2 => k_is); (case gq3 => k_is)
    (case zq0 => k_is); (case zq1 => k_is); (case zq2 => k_is); (case zq3 => k_is)
  case S =>
    intro K H xs a hO hwi hask hx
    obtain ⟨n, m, ns, ms, u⟩ := a
    have q : (Codec.inInt 0 4294967295 n && (Codec.inInt 0 4294967295 m && ((Codec.inLen 0 60 ns && ns.all (Codec.inInt 0 4294967295)) && ((Codec.inLen 0 60 ms && ms.all (Codec.inInt 0 4294967295)) && true)))) = true := hwi
    simp only [Bool.and_eq_true, List.all_eq_true, Codec.inInt_iff] at q
    obtain ⟨q1, q2, ⟨q3, q4⟩, ⟨q5, q6⟩, _⟩ := q
    cases hx with
    | cons h1 h2 =>
      cases h2 with
      | cons h2 h3 =>
        cases h3 with
        | cons h3 h4 =>
          cases h4 with
          | cons h4 h5 =>
            cases h5
            cases h1 with
            | int =>
              cases h2 with
              | int =>
                cases h3 with
                | lst hs3 ha3 =>
                  cases h4 with
                  | lst hs4 ha4 =>
                    have e3 := L2.ints_dw ns _ ha3
                    have e4 := L2.ints_dw ms _ ha4
                    subst e3 e4
                    have p4 : ∀ x ∈ ns, 0 ≤ x := fun x hx => (q4 x hx).1
                    refine ⟨n, m, _, _, ns, ms, rfl, hs3, hs4, (Codec.inNat_iff.mp q3).2, (Codec.inNat_iff.mp q5).2, p4, fun H' p hp => ?_⟩
                    show L2.Dw K H' (.ref p) (.list ((PyKs549.ways n m ns ms).map WData.int))
                    rw [Gt.ways_eq q1.1 q2.1 p4 (fun x hx => (q6 x hx).1)]
                    exact .lst (L2.SqL.of hp) (L2.dw_ints _)
#print axioms PySem.Challenge.cw_graphstogether_s03_ways_holds
