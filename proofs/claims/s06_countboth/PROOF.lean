import PyProof.Rows.All
import Wide.All
import OpenK.AllK
import Wide.FinOn
import PyProof.EqAt
import PyProof.EqKinds
import PyProof.TupleCall
import Open.SpecLaws
import KE.OsGo
import HandS.ForSpec
import HandS.Comp
import HandS.Iter
import HandS.Walk
import HandS.SortRule
import HandS.Deep
import PySem.Challenge.RW_graphstogether_s06_countboth
set_option Elab.async false
set_option maxRecDepth 100000
set_option maxHeartbeats 2000000
namespace Gt
/-! ### plain functions of the program -/
def prs : List Int → List (Int × Int)
  | u :: v :: l => (u, v) :: prs l
  | _ => []
def ltB (p q : Int × Int) : Bool := if p.1 = q.1 then decide (p.2 < q.2) else decide (p.1 < q.1)
def rise : List (Int × Int) → Bool
  | p :: q :: r => ltB p q && rise (q :: r)
  | _ => true
def isG (n : Int) (l : List Int) : Bool :=
  if n < 1 ∨ 5 < n ∨ l.length % 2 ≠ 0 then false else (l.all fun x => decide (x < n)) && rise (prs l)
def flat (ps : List (Int × Int)) : List Int := ps.flatMap fun p => [p.1, p.2]
def told (n : Int) (ps : List (Int × Int)) : List Int := n :: (ps.length : Int) :: flat ps
def shift (n : Int) (p : Int × Int) : Int × Int := (n + p.1, n + p.2)
def besideM (n m : Int) (f s : List Int) : List Int :=
  if (isG n f && isG m s) = true then told (n + m) (prs f ++ (prs s).map (shift n)) else [-22]
def tn (p : Int × Int) : Nat × Nat := (p.1.toNat, p.2.toNat)
def ti (p : Nat × Nat) : Int × Int := ((p.1 : Int), (p.2 : Int))

theorem ltB_iff {p q : Int × Int} : ltB p q = true ↔ p.1 < q.1 ∨ (p.1 = q.1 ∧ p.2 < q.2) := by
  unfold ltB
  split <;> simp <;> omega
theorem prs_nn : ∀ (l : List Int), (∀ x ∈ l, 0 ≤ x) → ∀ p ∈ prs l, 0 ≤ p.1 ∧ 0 ≤ p.2
  | [], _, p, h => by simp [prs] at h
  | [_], _, p, h => by simp [prs] at h
  | u :: v :: l, hl, p, h => by
    simp only [prs, List.mem_cons] at h
    rcases h with rfl | h
    · exact ⟨hl u (by simp), hl v (by simp)⟩
    · exact prs_nn l (fun x hx => hl x (by simp [hx])) p h
theorem prs_lt {n : Int} : ∀ (l : List Int), (∀ x ∈ l, x < n) → ∀ p ∈ prs l, p.1 < n ∧ p.2 < n
  | [], _, p, h => by simp [prs] at h
  | [_], _, p, h => by simp [prs] at h
  | u :: v :: l, hl, p, h => by
    simp only [prs, List.mem_cons] at h
    rcases h with rfl | h
    · exact ⟨hl u (by simp), hl v (by simp)⟩
    · exact prs_lt l (fun x hx => hl x (by simp [hx])) p h
theorem prs_len : ∀ (l : List Int), (prs l).length = l.length / 2
  | [] => rfl
  | [_] => by simp [prs]
  | u :: v :: l => by
    simp only [prs, List.length_cons, prs_len l]
    omega
theorem tn_lt {n u : Int} (hn : 0 ≤ n) (hu : 0 ≤ u) : n.toNat ≤ u.toNat ↔ n ≤ u := by omega

theorem pairsOf_eq {n : Int} (hn : 0 ≤ n) : ∀ (l : List Int), (∀ x ∈ l, 0 ≤ x) →
    Ks547.pairsOf n.toNat (l.map Int.toNat) = if (l.length % 2 = 0 ∧ (∀ x ∈ l, x < n) ∧ rise (prs l) = true) then some ((prs l).map tn) else none
  | [], _ => by simp [Ks547.pairsOf, prs, rise]
  | [x], _ => by simp [Ks547.pairsOf]
  | u :: v :: l, h => by
    have hu : 0 ≤ u := h u (by simp)
    have hv : 0 ≤ v := h v (by simp)
    have hl : ∀ x ∈ l, 0 ≤ x := fun x hx => h x (by simp [hx])
    have ih := pairsOf_eq hn l hl
    simp only [List.map_cons, Ks547.pairsOf, tn_lt hn hu, tn_lt hn hv, ih]
    by_cases c1 : n ≤ u ∨ n ≤ v
    · rw [if_pos c1, if_neg]
      rintro ⟨_, h2, _⟩
      have a := h2 u (by simp)
      have b := h2 v (by simp)
      omega
    · rw [if_neg c1]
      by_cases c2 : (l.length % 2 = 0 ∧ (∀ x ∈ l, x < n) ∧ rise (prs l) = true)
      · rw [if_pos c2]
        obtain ⟨d1, d2, d3⟩ := c2
        have e1 : (u :: v :: l).length % 2 = 0 := by
          simp only [List.length_cons]
          omega
        have e2 : ∀ x ∈ u :: v :: l, x < n := by
          intro x hx
          simp only [List.mem_cons] at hx
          rcases hx with rfl | rfl | hx
          · omega
          · omega
          · exact d2 x hx
        have nn := prs_nn l hl
        cases hp : prs l with
        | nil =>
          simp only [List.map_nil]
          rw [if_pos ⟨e1, e2, by simp [prs, hp, rise]⟩]
          simp [prs, hp, tn]
        | cons p r =>
          have pn := nn p (by simp [hp])
          simp only [List.map_cons, tn]
          rw [hp] at d3
          have ec : (u.toNat < p.1.toNat ∨ (u.toNat = p.1.toNat ∧ v.toNat < p.2.toNat)) ↔ ltB (u, v) p = true := by
            rw [ltB_iff]
            simp only
            omega
          by_cases c3 : ltB (u, v) p = true
          · rw [if_pos (ec.mpr c3), if_pos ⟨e1, e2, by simp [prs, hp, rise, c3, d3]⟩]
            simp [prs, hp, tn]
          · rw [if_neg (fun z => c3 (ec.mp z)), if_neg]
            rintro ⟨_, _, h3⟩
            simp only [prs, hp, rise, Bool.and_eq_true] at h3
            exact c3 h3.1
      · rw [if_neg c2, if_neg]
        rintro ⟨h1, h2, h3⟩
        refine c2 ⟨?_, fun x hx => h2 x (by simp [hx]), ?_⟩
        · simp only [List.length_cons] at h1
          omega
        · simp only [prs] at h3
          cases hp : prs l with
          | nil => rfl
          | cons p r =>
            rw [hp] at h3
            simp only [rise, Bool.and_eq_true] at h3
            exact h3.2

theorem isG_iff {n : Int} {l : List Int} : isG n l = true ↔ (1 ≤ n ∧ n ≤ 5) ∧ l.length % 2 = 0 ∧ (∀ x ∈ l, x < n) ∧ rise (prs l) = true := by
  unfold isG
  split
  · rename_i h
    simp only [Bool.false_eq_true, false_iff]
    rintro ⟨⟨_, _⟩, _, _⟩
    omega
  · rename_i h
    simp only [Bool.and_eq_true, List.all_eq_true, decide_eq_true_eq]
    constructor
    · rintro ⟨a, b⟩
      exact ⟨by omega, by omega, a, b⟩
    · rintro ⟨_, _, a, b⟩
      exact ⟨a, b⟩
def mkG (n : Int) (l : List Int) : Ks547.Graph := ⟨n.toNat, (prs l).map tn⟩
theorem graphOf_eq {n : Int} {l : List Int} (hn : 0 ≤ n) (hl : ∀ x ∈ l, 0 ≤ x) :
    Ks547.graphOf n.toNat (l.map Int.toNat) = if isG n l = true then some (mkG n l) else none := by
  unfold Ks547.graphOf
  rw [pairsOf_eq hn l hl]
  by_cases c : n.toNat < 1 ∨ Ks547.PLACES < n.toNat
  · rw [if_pos c, if_neg]
    intro z
    have := (isG_iff.mp z).1
    unfold Ks547.PLACES at c
    omega
  · rw [if_neg c]
    unfold Ks547.PLACES at c
    by_cases d : (l.length % 2 = 0 ∧ (∀ x ∈ l, x < n) ∧ rise (prs l) = true)
    · rw [if_pos d, if_pos (isG_iff.mpr ⟨by omega, d⟩)]
      rfl
    · rw [if_neg d, if_neg (fun z => d (isG_iff.mp z).2)]
      rfl
theorem tell_out (n : Nat) (ps : List (Nat × Nat)) : Ks549Neutral.out (Ks549.tell ⟨n, ps⟩) = told n (ps.map ti) := by
  unfold Ks549Neutral.out Ks549.tell told flat
  simp only [List.map_cons, List.length_map]
  congr 2
  induction ps with
  | nil => rfl
  | cons p r ih =>
    simp only [List.flatMap_cons, List.map_append, List.map_cons, ih]
    rfl
theorem ti_tn {ps : List (Int × Int)} (h : ∀ p ∈ ps, 0 ≤ p.1 ∧ 0 ≤ p.2) : (ps.map tn).map ti = ps := by
  rw [List.map_map]
  have : ps.map (ti ∘ tn) = ps.map id := by
    refine List.map_congr_left fun p hp => ?_
    have := h p hp
    show ((p.1.toNat : Int), (p.2.toNat : Int)) = p
    rw [Int.toNat_of_nonneg this.1, Int.toNat_of_nonneg this.2]
  rw [this, List.map_id]
theorem two_eq {n m : Int} {f s : List Int} (hn : 0 ≤ n) (hm : 0 ≤ m) (hf : ∀ x ∈ f, 0 ≤ x) (hs : ∀ x ∈ s, 0 ≤ x) (k : Ks547.Graph → Ks547.Graph → Ks547.Ans) :
    Ks547.two n.toNat m.toNat (f.map Int.toNat) (s.map Int.toNat) k = if (isG n f && isG m s) = true then k (mkG n f) (mkG m s) else Ks547.no (-22) := by
  unfold Ks547.two Ks547.graph
  rw [graphOf_eq hn hf]
  by_cases a : isG n f = true
  · simp only [graphOf_eq hm hs, a, Bool.true_and, if_true]
    by_cases b : isG m s = true
    · simp only [if_pos b]
    · simp only [if_neg b]
  · simp only [if_neg a]
    rw [if_neg]
    simp [a]
theorem beside_eq {n m : Int} {f s : List Int} (hn : 0 ≤ n) (hm : 0 ≤ m) (hf : ∀ x ∈ f, 0 ≤ x) (hs : ∀ x ∈ s, 0 ≤ x) : PyKs549.beside n m f s = besideM n m f s := by
  show Ks549Neutral.out (Ks547.two n.toNat m.toNat (f.map Int.toNat) (s.map Int.toNat) fun g h => Ks549.tell (Ks549.beside g h)) = _
  rw [two_eq hn hm hf hs]
  unfold besideM
  split
  · unfold Ks549.beside
    rw [tell_out]
    congr 1
    · show ((n.toNat + m.toNat : Nat) : Int) = n + m
      omega
    · show ((prs f).map tn ++ ((prs s).map tn).map fun p => (n.toNat + p.1, n.toNat + p.2)).map ti = _
      rw [List.map_append, ti_tn (prs_nn f hf)]
      congr 1
      rw [List.map_map, List.map_map]
      refine List.map_congr_left fun p hp => ?_
      have := prs_nn s hs p hp
      show (((n.toNat + p.1.toNat : Nat) : Int), ((n.toNat + p.2.toNat : Nat) : Int)) = (n + p.1, n + p.2)
      congr 1 <;> omega
  · rfl
end Gt
namespace Gt
theorem nt1 {b : Bool} (h : (!b) = true) : b = false := by
  cases b with
  | false => rfl
  | true => cases h
theorem nt2 {b : Bool} (h : ¬ (!b) = true) : b = true := by
  cases b with
  | true => rfl
  | false => exact absurd rfl h
end Gt
namespace Gt
/-! ### rising lists of pairs -/
theorem ltB_trans {p q r : Int × Int} (a : ltB p q = true) (b : ltB q r = true) : ltB p r = true := by
  rw [ltB_iff] at *
  omega
theorem rise_pw : ∀ {l : List (Int × Int)}, rise l = true → l.Pairwise (fun p q => ltB p q = true)
  | [], _ => .nil
  | [_], _ => List.pairwise_singleton ..
  | p :: q :: r, h => by
    simp only [rise, Bool.and_eq_true] at h
    have ih := rise_pw h.2
    refine List.pairwise_cons.mpr ⟨fun x hx => ?_, ih⟩
    rcases List.mem_cons.mp hx with rfl | hx
    · exact h.1
    · exact ltB_trans h.1 ((List.pairwise_cons.mp ih).1 x hx)
theorem pw_nd {l : List (Int × Int)} (h : l.Pairwise (fun p q => ltB p q = true)) : l.Nodup := by
  refine h.imp fun {p q} a e => ?_
  subst e
  rw [ltB_iff] at a
  omega
theorem pw_le {l : List (Int × Int)} (h : l.Pairwise (fun p q => ltB p q = true)) : l.Pairwise (fun p q => ltB q p = false) := by
  refine h.imp fun {p q} a => ?_
  cases e : ltB q p with
  | false => rfl
  | true =>
    rw [ltB_iff] at a e
    omega
theorem le_anti {p q : Int × Int} (a : ltB q p = false) (b : ltB p q = false) : p = q := by
  have a' : ¬ ltB q p = true := by rw [a]; decide
  have b' : ¬ ltB p q = true := by rw [b]; decide
  rw [ltB_iff] at a' b'
  apply Prod.ext <;> omega
/-- two rising rearrangements are one -/
theorem one_of {l r : List (Int × Int)} (h1 : l.Pairwise (fun p q => ltB q p = false)) (h2 : r.Pairwise (fun p q => ltB q p = false)) (p : l.Perm r) : l = r :=
  p.eq_of_pairwise (fun _ _ _ _ a b => le_anti a b) h1 h2
/-! ### make -/
theorem make_mem {N : Nat} {F : Nat → Nat → Bool} {a b : Nat} : (a, b) ∈ (Ks549.make N F).arrows ↔ a < N ∧ b < N ∧ F a b = true := by
  unfold Ks549.make
  simp only [List.mem_flatMap, List.mem_map, List.mem_filter, List.mem_range, Prod.mk.injEq]
  constructor
  · rintro ⟨u, hu, v, ⟨hv, hf⟩, rfl, rfl⟩
    exact ⟨hu, hv, hf⟩
  · rintro ⟨hu, hv, hf⟩
    exact ⟨a, hu, b, ⟨hv, hf⟩, rfl, rfl⟩
theorem make_pw {N : Nat} {F : Nat → Nat → Bool} : ((Ks549.make N F).arrows.map ti).Pairwise (fun p q => ltB p q = true) := by
  rw [List.pairwise_map]
  unfold Ks549.make
  simp only
  rw [List.pairwise_flatMap]
  refine ⟨fun u _ => ?_, List.pairwise_lt_range.imp fun {u v} huv x hx y hy => ?_⟩
  · rw [List.pairwise_map]
    refine (List.pairwise_lt_range.filter _).imp fun {v w} hvw => ?_
    rw [ltB_iff]
    exact .inr ⟨rfl, Int.ofNat_lt.mpr hvw⟩
  · simp only [List.mem_map] at hx hy
    obtain ⟨_, _, rfl⟩ := hx
    obtain ⟨_, _, rfl⟩ := hy
    rw [ltB_iff]
    simp only [ti]
    omega
theorem make_le {N : Nat} {F : Nat → Nat → Bool} : ((Ks549.make N F).arrows.map ti).Pairwise (fun p q => ltB q p = false) := pw_le make_pw
theorem make_nd {N : Nat} {F : Nat → Nat → Bool} : ((Ks549.make N F).arrows.map ti).Nodup := pw_nd make_pw
/-- a list without doubles that has what make has, and rises -/
theorem make_is {N : Nat} {F : Nat → Nat → Bool} {l ys : List (Int × Int)} (nd : l.Nodup) (hm : ∀ p, p ∈ l ↔ ∃ a b : Nat, p = ((a : Int), (b : Int)) ∧ a < N ∧ b < N ∧ F a b = true)
    (hp : ys.Perm l) (hs : ys.Pairwise (fun p q => ltB q p = false)) : (Ks549.make N F).arrows.map ti = ys := by
  refine one_of make_le hs (List.Perm.trans ?_ hp.symm)
  rw [List.perm_ext_iff_of_nodup make_nd nd]
  intro p
  rw [hm, List.mem_map]
  constructor
  · rintro ⟨⟨a, b⟩, h, rfl⟩
    exact ⟨a, b, rfl, make_mem.mp h⟩
  · rintro ⟨a, b, rfl, h⟩
    exact ⟨(a, b), make_mem.mpr h, rfl⟩
/-! ### both -/
def pairUp (m : Int) (p q : Int × Int) : Int × Int := (p.1 * m + q.1, p.2 * m + q.2)
def prod (m : Int) (A B : List (Int × Int)) : List (Int × Int) := A.flatMap fun p => B.map (pairUp m p)
theorem part {m a b c d : Int} (h : a * m + b = c * m + d) (hb : 0 ≤ b ∧ b < m) (hd : 0 ≤ d ∧ d < m) : a = c ∧ b = d := by
  have hm : 0 < m := by omega
  have e1 : (a * m + b) / m = a := by
    rw [Int.add_comm, Int.add_mul_ediv_right _ _ (by omega), Int.ediv_eq_zero_of_lt hb.1 hb.2, Int.zero_add]
  have e2 : (c * m + d) / m = c := by
    rw [Int.add_comm, Int.add_mul_ediv_right _ _ (by omega), Int.ediv_eq_zero_of_lt hd.1 hd.2, Int.zero_add]
  have e : a = c := by rw [← e1, ← e2, h]
  subst e
  exact ⟨rfl, by omega⟩
theorem prod_nd {m : Int} {A B : List (Int × Int)} (hA : A.Nodup) (hB : B.Nodup) (hb : ∀ q ∈ B, (0 ≤ q.1 ∧ q.1 < m) ∧ 0 ≤ q.2 ∧ q.2 < m) : (prod m A B).Nodup := by
  unfold prod List.Nodup
  rw [List.pairwise_flatMap]
  refine ⟨fun p _ => ?_, hA.imp fun {p p'} hne x hx y hy e => ?_⟩
  · rw [List.pairwise_map]
    refine hB.imp_of_mem fun {q q'} hq hq' hne e => hne ?_
    have := Prod.mk.inj e
    exact Prod.ext (part this.1 (hb q hq).1 (hb q' hq').1).2 (part this.2 (hb q hq).2 (hb q' hq').2).2
  · obtain ⟨q, hq, rfl⟩ := List.mem_map.mp hx
    obtain ⟨q', hq', rfl⟩ := List.mem_map.mp hy
    have := Prod.mk.inj e
    exact hne (Prod.ext (part this.1 (hb q hq).1 (hb q' hq').1).1 (part this.2 (hb q hq).2 (hb q' hq').2).1)
theorem mem_prod {m : Int} {A B : List (Int × Int)} {x : Int × Int} : x ∈ prod m A B ↔ ∃ p ∈ A, ∃ q ∈ B, x = pairUp m p q := by
  unfold prod
  simp only [List.mem_flatMap, List.mem_map]
  constructor
  · rintro ⟨p, hp, q, hq, rfl⟩
    exact ⟨p, hp, q, hq, rfl⟩
  · rintro ⟨p, hp, q, hq, rfl⟩
    exact ⟨p, hp, q, hq, rfl⟩
theorem has_mk {n : Int} {l : List Int} {u v : Nat} : Ks547.has (mkG n l) u v = true ↔ ∃ p ∈ prs l, tn p = (u, v) := by
  unfold Ks547.has mkG
  rw [List.contains_iff_mem, List.mem_map]
theorem nat_lt {u v n m : Nat} (hu : u < n) (hv : v < m) : u * m + v < n * m := by
  have h1 : (u + 1) * m ≤ n * m := Nat.mul_le_mul_right m hu
  rw [Nat.succ_mul] at h1
  omega
theorem rng_of {n : Int} {l : List Int} (g : isG n l = true) (hl : ∀ x ∈ l, 0 ≤ x) : ∀ q ∈ prs l, (0 ≤ q.1 ∧ q.1 < n) ∧ 0 ≤ q.2 ∧ q.2 < n := fun q hq => by
  have a := prs_nn l hl q hq
  have b := prs_lt l (isG_iff.mp g).2.2.1 q hq
  omega
theorem nd_of {n : Int} {l : List Int} (g : isG n l = true) : (prs l).Nodup := pw_nd (rise_pw (isG_iff.mp g).2.2.2)
theorem both_eq {n m : Int} {f s : List Int} {ys : List (Int × Int)} (hf : ∀ x ∈ f, 0 ≤ x) (hs : ∀ x ∈ s, 0 ≤ x) (gf : isG n f = true) (gs : isG m s = true)
    (hp : ys.Perm (prod m (prs f) (prs s))) (hy : ys.Pairwise (fun p q => ltB q p = false)) : PyKs549.both n m f s = told (n * m) ys := by
  have n1 := (isG_iff.mp gf).1
  have m1 := (isG_iff.mp gs).1
  have rf := rng_of gf hf
  have rs := rng_of gs hs
  show Ks549Neutral.out (Ks547.two n.toNat m.toNat (f.map Int.toNat) (s.map Int.toNat) fun g h => Ks549.tell (Ks549.both g h)) = _
  rw [two_eq (by omega) (by omega) hf hs, if_pos (by rw [gf, gs]; rfl)]
  unfold Ks549.both
  rw [show Ks549.make ((mkG n f).n * (mkG m s).n) (fun a b => Ks547.has (mkG n f) (a / (mkG m s).n) (b / (mkG m s).n) && Ks547.has (mkG m s) (a % (mkG m s).n) (b % (mkG m s).n)) = ⟨(mkG n f).n * (mkG m s).n, (Ks549.make ((mkG n f).n * (mkG m s).n) (fun a b => Ks547.has (mkG n f) (a / (mkG m s).n) (b / (mkG m s).n) && Ks547.has (mkG m s) (a % (mkG m s).n) (b % (mkG m s).n))).arrows⟩ from rfl, tell_out]
  have ez : (((mkG n f).n * (mkG m s).n : Nat) : Int) = n * m := by
    show ((n.toNat * m.toNat : Nat) : Int) = n * m
    rw [Int.natCast_mul, Int.toNat_of_nonneg (by omega), Int.toNat_of_nonneg (by omega)]
  rw [ez]
  congr 1
  refine make_is (prod_nd (nd_of gf) (nd_of gs) rs) (fun x => ?_) hp hy
  rw [mem_prod]
  show _ ↔ ∃ a b : Nat, x = ((a : Int), (b : Int)) ∧ a < n.toNat * m.toNat ∧ b < n.toNat * m.toNat ∧ (Ks547.has (mkG n f) (a / m.toNat) (b / m.toNat) && Ks547.has (mkG m s) (a % m.toNat) (b % m.toNat)) = true
  simp only [Bool.and_eq_true, has_mk]
  have mm : ((m.toNat : Nat) : Int) = m := Int.toNat_of_nonneg (by omega)
  constructor
  · rintro ⟨p, hp, q, hq, rfl⟩
    have a := rf p hp
    have b := rs q hq
    have z1 : q.1.toNat < m.toNat := by omega
    have z2 : q.2.toNat < m.toNat := by omega
    refine ⟨p.1.toNat * m.toNat + q.1.toNat, p.2.toNat * m.toNat + q.2.toNat, ?_, nat_lt (by omega) z1, nat_lt (by omega) z2, ⟨p, hp, ?_⟩, q, hq, ?_⟩
    · show (p.1 * m + q.1, p.2 * m + q.2) = _
      rw [Int.natCast_add, Int.natCast_add, Int.natCast_mul, Int.natCast_mul, mm, Int.toNat_of_nonneg a.1.1, Int.toNat_of_nonneg a.2.1, Int.toNat_of_nonneg b.1.1, Int.toNat_of_nonneg b.2.1]
    · show (p.1.toNat, p.2.toNat) = _
      rw [Nat.mul_comm, Nat.mul_add_div (by omega), Nat.div_eq_of_lt z1, Nat.add_zero, Nat.mul_comm, Nat.mul_add_div (by omega), Nat.div_eq_of_lt z2, Nat.add_zero]
    · show (q.1.toNat, q.2.toNat) = _
      rw [Nat.mul_comm, Nat.mul_add_mod, Nat.mod_eq_of_lt z1, Nat.mul_comm, Nat.mul_add_mod, Nat.mod_eq_of_lt z2]
  · rintro ⟨a, b, rfl, _, _, ⟨p, hp, ep⟩, q, hq, eq⟩
    refine ⟨p, hp, q, hq, ?_⟩
    have e1 := Prod.mk.inj (show (p.1.toNat, p.2.toNat) = _ from ep)
    have e2 := Prod.mk.inj (show (q.1.toNat, q.2.toNat) = _ from eq)
    have x := rf p hp
    have y := rs q hq
    have d1 := Nat.div_add_mod a m.toNat
    have d2 := Nat.div_add_mod b m.toNat
    rw [← e1.1, ← e2.1] at d1
    rw [← e1.2, ← e2.2] at d2
    show ((a : Int), (b : Int)) = (p.1 * m + q.1, p.2 * m + q.2)
    rw [← d1, ← d2, Int.natCast_add, Int.natCast_add, Int.natCast_mul, Int.natCast_mul, mm, Int.toNat_of_nonneg x.1.1, Int.toNat_of_nonneg x.2.1, Int.toNat_of_nonneg y.1.1, Int.toNat_of_nonneg y.2.1, Int.mul_comm m, Int.mul_comm m]
theorem both_no {n m : Int} {f s : List Int} (hn : 0 ≤ n) (hm : 0 ≤ m) (hf : ∀ x ∈ f, 0 ≤ x) (hs : ∀ x ∈ s, 0 ≤ x) (g : (isG n f && isG m s) = false) : PyKs549.both n m f s = [-22] := by
  show Ks549Neutral.out (Ks547.two n.toNat m.toNat (f.map Int.toNat) (s.map Int.toNat) fun g h => Ks549.tell (Ks549.both g h)) = _
  rw [two_eq hn hm hf hs, if_neg (by rw [g]; decide)]
  rfl
end Gt
namespace Gt
open Ks547 (rows)
/-! ### all ways to give k places one of m -/
theorem rows_len (m : Nat) : ∀ k, (rows m k).length = m ^ k
  | 0 => rfl
  | k + 1 => by
    have h : ∀ l : List Nat, (l.flatMap fun x => (rows m k).map fun r => x :: r).length = l.length * m ^ k := fun l => by
      induction l with
      | nil => simp
      | cons x r ih =>
        rw [List.flatMap_cons, List.length_append, ih, List.length_map, rows_len m k, List.length_cons, Nat.succ_mul, Nat.add_comm]
    show ((List.range m).flatMap _).length = _
    rw [h, List.length_range, Nat.pow_succ, Nat.mul_comm]
theorem rows_mem {m : Nat} : ∀ {k : Nat} {f : List Nat}, f ∈ rows m k ↔ f.length = k ∧ ∀ x ∈ f, x < m
  | 0, f => by
    show f ∈ [[]] ↔ _
    constructor
    · intro h
      simp at h
      subst h
      simp
    · rintro ⟨h, _⟩
      rw [List.length_eq_zero_iff.mp h]
      simp
  | k + 1, f => by
    show f ∈ (List.range m).flatMap _ ↔ _
    simp only [List.mem_flatMap, List.mem_range, List.mem_map]
    constructor
    · rintro ⟨x, hx, r, hr, rfl⟩
      obtain ⟨h1, h2⟩ := rows_mem.mp hr
      refine ⟨by rw [List.length_cons, h1], fun y hy => ?_⟩
      rcases List.mem_cons.mp hy with rfl | hy
      · exact hx
      · exact h2 y hy
    · rintro ⟨h1, h2⟩
      cases f with
      | nil => simp at h1
      | cons x r => exact ⟨x, h2 x (by simp), r, rows_mem.mpr ⟨by simpa using h1, fun y hy => h2 y (by simp [hy])⟩, rfl⟩
/-- the last place goes round first -/
theorem rows_snoc (m : Nat) : ∀ k, rows m (k + 1) = (rows m k).flatMap fun r => (List.range m).map fun x => r ++ [x]
  | 0 => by
    show (List.range m).flatMap (fun x => [[]].map fun r => x :: r) = [[]].flatMap fun r => (List.range m).map fun x => r ++ [x]
    simp only [List.map_cons, List.map_nil, List.flatMap_cons, List.flatMap_nil, List.append_nil, List.nil_append]
    induction List.range m with
    | nil => rfl
    | cons x r ih => rw [List.flatMap_cons, ih, List.map_cons]; rfl
  | k + 1 => by
    show (List.range m).flatMap (fun x => (rows m (k + 1)).map fun r => x :: r) = _
    conv => lhs; rw [rows_snoc m k]
    show _ = ((List.range m).flatMap fun x => (rows m k).map fun r => x :: r).flatMap _
    rw [List.flatMap_assoc]
    congr 1
    funext x
    rw [List.map_flatMap, List.flatMap_map]
    congr 1
    funext r
    rw [List.map_map]
    rfl
/-- two parts -/
theorem rows_add (m : Nat) : ∀ (j k : Nat), rows m (j + k) = (rows m j).flatMap fun r => (rows m k).map fun s => r ++ s
  | 0, k => by
    rw [Nat.zero_add]
    show _ = [[]].flatMap _
    simp
  | j + 1, k => by
    rw [show j + 1 + k = (j + k) + 1 by omega]
    show (List.range m).flatMap (fun x => (rows m (j + k)).map fun r => x :: r) = ((List.range m).flatMap fun x => (rows m j).map fun r => x :: r).flatMap _
    rw [List.flatMap_assoc]
    congr 1
    funext x
    rw [rows_add m j k, List.map_flatMap, List.flatMap_map]
    congr 1
    funext r
    rw [List.map_map]
    rfl
/-- the digits of a, k of them, by m -/
def digits (m : Nat) : Nat → Nat → List Nat
  | 0, _ => []
  | k + 1, a => digits m k (a / m) ++ [a % m]
theorem range_mul (m : Nat) : ∀ n, List.range (n * m) = (List.range n).flatMap fun q => (List.range m).map fun x => q * m + x
  | 0 => by simp
  | n + 1 => by
    rw [Nat.succ_mul, List.range_add, range_mul m n, List.range_succ, List.flatMap_append]
    simp
/-- numbered in order: way a gives the digits of a -/
theorem rows_digits (m : Nat) : ∀ k, rows m k = (List.range (m ^ k)).map (digits m k)
  | 0 => rfl
  | k + 1 => by
    rw [rows_snoc, rows_digits m k, Nat.pow_succ, range_mul, List.map_flatMap, List.flatMap_map]
    congr 1
    funext q
    rw [List.map_map]
    refine List.map_congr_left fun x hx => ?_
    have hx : x < m := List.mem_range.mp hx
    show digits m k q ++ [x] = digits m k ((q * m + x) / m) ++ [(q * m + x) % m]
    rw [Nat.mul_comm, Nat.mul_add_div (by omega), Nat.div_eq_of_lt hx, Nat.add_zero, Nat.mul_add_mod, Nat.mod_eq_of_lt hx]
theorem rows_at {m k a : Nat} (h : a < m ^ k) : (rows m k).getD a [] = digits m k a := by
  rw [rows_digits, List.getD_eq_getElem?_getD, List.getElem?_map, List.getElem?_range h]
  rfl
/-- how many of a product, where the test falls in two -/
theorem prod_count {A B C : Type} {F : A → B → C} {P : C → Bool} {p : A → Bool} {q : B → Bool} (h : ∀ a b, P (F a b) = (p a && q b)) (la : List A) (lb : List B) :
    ((la.flatMap fun a => lb.map (F a)).filter P).length = (la.filter p).length * (lb.filter q).length := by
  induction la with
  | nil => simp
  | cons a r ih =>
    rw [List.flatMap_cons, List.filter_append, List.length_append, ih, List.filter_map, List.length_map]
    cases e : p a with
    | true =>
      rw [List.filter_cons_of_pos e, List.length_cons, Nat.succ_mul, Nat.add_comm]
      congr 2
      exact List.filter_congr fun b _ => by simp [h, e]
    | false =>
      rw [List.filter_cons_of_neg (by rw [e]; decide)]
      rw [List.filter_eq_nil_iff.mpr fun b _ => by simp [h, e]]
      simp
end Gt
namespace Gt
open Ks547 (rows)
/-! ### ways -/
/-- each arrow of A becomes one of T: its begin by the one way, its end by the other -/
def lead (A T : List (Int × Int)) (one other : List Nat) : Bool :=
  A.all fun p => decide ((((one.getD p.1.toNat 0 : Nat) : Int), ((other.getD p.2.toNat 0 : Nat) : Int)) ∈ T)
/-- arrows from way u to ways below j -/
def from_ (R : List (List Nat)) (A T : List (Int × Int)) (u j : Nat) : List (Int × Int) :=
  (((List.range j).filter fun v => lead A T (R.getD u []) (R.getD v [])).map fun v => (u, v)).map ti
/-- arrows from ways below i -/
def btw (R : List (List Nat)) (A T : List (Int × Int)) (i : Nat) : List (Int × Int) :=
  (List.range i).flatMap fun u => from_ R A T u R.length
theorem btw_more (R : List (List Nat)) (A T : List (Int × Int)) (i : Nat) : btw R A T (i + 1) = btw R A T i ++ from_ R A T i R.length := by
  unfold btw
  rw [List.range_succ, List.flatMap_append]
  simp
theorem from_more (R : List (List Nat)) (A T : List (Int × Int)) (u j : Nat) : from_ R A T u (j + 1) = from_ R A T u j ++ if lead A T (R.getD u []) (R.getD j []) = true then [((u : Int), (j : Int))] else [] := by
  unfold from_
  rw [List.range_succ, List.filter_append, List.map_append, List.map_append]
  congr 1
  split
  · rename_i h
    rw [List.filter_cons_of_pos (p := fun v => lead A T (R.getD u []) (R.getD v [])) h]
    rfl
  · rename_i h
    rw [List.filter_cons_of_neg (p := fun v => lead A T (R.getD u []) (R.getD v [])) h]
    rfl
theorem from_len (R : List (List Nat)) (A T : List (Int × Int)) (u j : Nat) : (from_ R A T u j).length ≤ j := by
  unfold from_
  rw [List.length_map, List.length_map]
  exact Nat.le_trans (List.length_filter_le _ _) (by rw [List.length_range]; exact Nat.le_refl _)
theorem btw_len (R : List (List Nat)) (A T : List (Int × Int)) : ∀ i, (btw R A T i).length ≤ i * R.length
  | 0 => by simp [btw]
  | i + 1 => by
    rw [btw_more, List.length_append, Nat.succ_mul]
    exact Nat.add_le_add (btw_len R A T i) (from_len R A T i R.length)
theorem has_in {m : Int} {s : List Int} (hs : ∀ x ∈ s, 0 ≤ x) (x y : Nat) : Ks547.has (mkG m s) x y = decide (((x : Int), (y : Int)) ∈ prs s) := by
  rw [Bool.eq_iff_iff, has_mk, decide_eq_true_iff]
  constructor
  · rintro ⟨p, hp, e⟩
    have e1 := Prod.mk.inj (show (p.1.toNat, p.2.toNat) = _ from e)
    have z := prs_nn s hs p hp
    have : p = ((x : Int), (y : Int)) := by
      apply Prod.ext
      · show p.1 = (x : Int)
        omega
      · show p.2 = (y : Int)
        omega
    exact this ▸ hp
  · intro h
    exact ⟨_, h, rfl⟩
def waysM (n m : Int) (f s : List Int) : List Int :=
  if (isG n f && isG m s) = true then
    if 27 < m.toNat ^ n.toNat then [-75] else told ((rows m.toNat n.toNat).length : Int) (btw (rows m.toNat n.toNat) (prs f) (prs s) (rows m.toNat n.toNat).length)
  else [-22]
theorem ways_arr {n m : Int} {f s : List Int} (hs : ∀ x ∈ s, 0 ≤ x) : (Ks549.ways (mkG n f) (mkG m s)).arrows.map ti = btw (rows m.toNat n.toNat) (prs f) (prs s) (rows m.toNat n.toNat).length := by
  unfold Ks549.ways Ks549.make btw from_
  simp only
  rw [List.map_flatMap]
  congr 1
  funext u
  congr 2
  refine List.filter_congr fun v _ => ?_
  unfold lead
  show ((prs f).map tn).all _ = _
  rw [List.all_map]
  congr 1
  funext p
  show Ks547.has (mkG m s) _ _ = _
  rw [has_in hs]
  rfl
theorem ways_eq {n m : Int} {f s : List Int} (hn : 0 ≤ n) (hm : 0 ≤ m) (hf : ∀ x ∈ f, 0 ≤ x) (hs : ∀ x ∈ s, 0 ≤ x) : PyKs549.ways n m f s = waysM n m f s := by
  show Ks549Neutral.out (Ks547.two n.toNat m.toNat (f.map Int.toNat) (s.map Int.toNat) fun g h => if Ks549.MOST < m.toNat ^ n.toNat then Ks549.no (-75) else Ks549.tell (Ks549.ways g h)) = _
  rw [two_eq hn hm hf hs]
  unfold waysM
  split
  · show Ks549Neutral.out (if 27 < m.toNat ^ n.toNat then _ else _) = _
    split
    · rfl
    · show Ks549Neutral.out (Ks549.tell ⟨(rows m.toNat n.toNat).length, (Ks549.ways (mkG n f) (mkG m s)).arrows⟩) = _
      rw [tell_out, ways_arr hs]
  · rfl
end Gt
namespace Gt
open Ks547 (rows)
/-! ### how many maps -/
def cnt (n m : Nat) (A T : List (Int × Int)) : Nat := ((rows m n).filter fun r => lead A T r r).length
theorem lead_congr {A A' T T' : List (Int × Int)} (hA : ∀ p, p ∈ A ↔ p ∈ A') (hT : ∀ p, p ∈ T ↔ p ∈ T') (r s : List Nat) : lead A T r s = lead A' T' r s := by
  unfold lead
  rw [Bool.eq_iff_iff, List.all_eq_true, List.all_eq_true]
  simp only [decide_eq_true_eq]
  constructor
  · intro h p hp
    exact (hT _).mp (h p ((hA p).mpr hp))
  · intro h p hp
    exact (hT _).mpr (h p ((hA p).mp hp))
theorem cnt_congr {n m : Nat} {A A' T T' : List (Int × Int)} (hA : ∀ p, p ∈ A ↔ p ∈ A') (hT : ∀ p, p ∈ T ↔ p ∈ T') : cnt n m A T = cnt n m A' T' := by
  unfold cnt
  congr 1
  exact List.filter_congr fun r _ => lead_congr hA hT r r
theorem ti_mem {x y : Nat} {T : List (Nat × Nat)} : ((x : Int), (y : Int)) ∈ T.map ti ↔ (x, y) ∈ T := by
  rw [List.mem_map]
  constructor
  · rintro ⟨⟨a, b⟩, h, e⟩
    have e := Prod.mk.inj (show ((a : Int), (b : Int)) = _ from e)
    have e1 : a = x := by omega
    have e2 : b = y := by omega
    exact e1 ▸ e2 ▸ h
  · intro h
    exact ⟨(x, y), h, rfl⟩
/-- the specification's count, of any two graphs -/
theorem count_eq (g h : Ks547.Graph) : Ks549.count g h = cnt g.n h.n (g.arrows.map ti) (h.arrows.map ti) := by
  unfold Ks549.count Ks547.maps cnt
  congr 1
  refine List.filter_congr fun r hr => ?_
  obtain ⟨h1, h2⟩ := rows_mem.mp hr
  unfold Ks547.keeps lead
  have e1 : (r.length == g.n) = true := by rw [h1]; exact beq_self_eq_true _
  have e2 : (r.all fun x => decide (x < h.n)) = true := by
    rw [List.all_eq_true]
    intro x hx
    exact decide_eq_true (h2 x hx)
  rw [e1, e2, Bool.true_and, Bool.true_and, List.all_map]
  congr 1
  funext p
  show Ks547.has h (r.getD p.1 0) (r.getD p.2 0) = decide ((((r.getD (p.1 : Int).toNat 0 : Nat) : Int), ((r.getD (p.2 : Int).toNat 0 : Nat) : Int)) ∈ h.arrows.map ti)
  rw [Int.toNat_natCast, Int.toNat_natCast, Bool.eq_iff_iff, decide_eq_true_iff, ti_mem]
  unfold Ks547.has
  rw [List.contains_iff_mem]
/-! what is made, as lists of pairs -/
theorem mk_arr {n : Int} {l : List Int} (hl : ∀ x ∈ l, 0 ≤ x) : (mkG n l).arrows.map ti = prs l := ti_tn (prs_nn l hl)
theorem beside_arr {n m : Int} {f s : List Int} (hn : 0 ≤ n) (hf : ∀ x ∈ f, 0 ≤ x) (hs : ∀ x ∈ s, 0 ≤ x) : (Ks549.beside (mkG n f) (mkG m s)).arrows.map ti = prs f ++ (prs s).map (shift n) := by
  show ((prs f).map tn ++ ((prs s).map tn).map fun p => (n.toNat + p.1, n.toNat + p.2)).map ti = _
  rw [List.map_append, ti_tn (prs_nn f hf)]
  congr 1
  rw [List.map_map, List.map_map]
  refine List.map_congr_left fun p hp => ?_
  have := prs_nn s hs p hp
  show (((n.toNat + p.1.toNat : Nat) : Int), ((n.toNat + p.2.toNat : Nat) : Int)) = (n + p.1, n + p.2)
  congr 1 <;> omega
theorem both_mem {n m : Int} {f s : List Int} (hf : ∀ x ∈ f, 0 ≤ x) (hs : ∀ x ∈ s, 0 ≤ x) (gf : isG n f = true) (gs : isG m s = true) (x : Int × Int) :
    x ∈ prod m (prs f) (prs s) ↔ x ∈ (Ks549.both (mkG n f) (mkG m s)).arrows.map ti := by
  have n1 := (isG_iff.mp gf).1
  have m1 := (isG_iff.mp gs).1
  have rf := rng_of gf hf
  have rs := rng_of gs hs
  have e0 : x ∈ (Ks549.both (mkG n f) (mkG m s)).arrows.map ti ↔ ∃ a b : Nat, x = ((a : Int), (b : Int)) ∧ a < n.toNat * m.toNat ∧ b < n.toNat * m.toNat ∧ (Ks547.has (mkG n f) (a / m.toNat) (b / m.toNat) && Ks547.has (mkG m s) (a % m.toNat) (b % m.toNat)) = true := by
    rw [List.mem_map]
    constructor
    · rintro ⟨⟨a, b⟩, h, rfl⟩
      exact ⟨a, b, rfl, make_mem.mp h⟩
    · rintro ⟨a, b, rfl, h⟩
      exact ⟨(a, b), make_mem.mpr h, rfl⟩
  rw [e0, mem_prod]
  simp only [Bool.and_eq_true, has_mk]
  have mm : ((m.toNat : Nat) : Int) = m := Int.toNat_of_nonneg (by omega)
  constructor
  · rintro ⟨p, hp, q, hq, rfl⟩
    have a := rf p hp
    have b := rs q hq
    have z1 : q.1.toNat < m.toNat := by omega
    have z2 : q.2.toNat < m.toNat := by omega
    refine ⟨p.1.toNat * m.toNat + q.1.toNat, p.2.toNat * m.toNat + q.2.toNat, ?_, nat_lt (by omega) z1, nat_lt (by omega) z2, ⟨p, hp, ?_⟩, q, hq, ?_⟩
    · show (p.1 * m + q.1, p.2 * m + q.2) = _
      rw [Int.natCast_add, Int.natCast_add, Int.natCast_mul, Int.natCast_mul, mm, Int.toNat_of_nonneg a.1.1, Int.toNat_of_nonneg a.2.1, Int.toNat_of_nonneg b.1.1, Int.toNat_of_nonneg b.2.1]
    · show (p.1.toNat, p.2.toNat) = _
      rw [Nat.mul_comm, Nat.mul_add_div (by omega), Nat.div_eq_of_lt z1, Nat.add_zero, Nat.mul_comm, Nat.mul_add_div (by omega), Nat.div_eq_of_lt z2, Nat.add_zero]
    · show (q.1.toNat, q.2.toNat) = _
      rw [Nat.mul_comm, Nat.mul_add_mod, Nat.mod_eq_of_lt z1, Nat.mul_comm, Nat.mul_add_mod, Nat.mod_eq_of_lt z2]
  · rintro ⟨a, b, rfl, _, _, ⟨p, hp, ep⟩, q, hq, eq⟩
    refine ⟨p, hp, q, hq, ?_⟩
    have e1 := Prod.mk.inj (show (p.1.toNat, p.2.toNat) = _ from ep)
    have e2 := Prod.mk.inj (show (q.1.toNat, q.2.toNat) = _ from eq)
    have x := rf p hp
    have y := rs q hq
    have d1 := Nat.div_add_mod a m.toNat
    have d2 := Nat.div_add_mod b m.toNat
    rw [← e1.1, ← e2.1] at d1
    rw [← e1.2, ← e2.2] at d2
    show ((a : Int), (b : Int)) = (p.1 * m + q.1, p.2 * m + q.2)
    rw [← d1, ← d2, Int.natCast_add, Int.natCast_add, Int.natCast_mul, Int.natCast_mul, mm, Int.toNat_of_nonneg x.1.1, Int.toNat_of_nonneg x.2.1, Int.toNat_of_nonneg y.1.1, Int.toNat_of_nonneg y.2.1, Int.mul_comm m, Int.mul_comm m]
theorem three_eq {n m o : Int} {f s t : List Int} (hn : 0 ≤ n) (hm : 0 ≤ m) (ho : 0 ≤ o) (hf : ∀ x ∈ f, 0 ≤ x) (hs : ∀ x ∈ s, 0 ≤ x) (ht : ∀ x ∈ t, 0 ≤ x) (k : Ks547.Graph → Ks547.Graph → Ks547.Graph → Ks547.Ans) :
    Ks549.three n.toNat m.toNat o.toNat (f.map Int.toNat) (s.map Int.toNat) (t.map Int.toNat) k = if (isG n f && (isG m s && isG o t)) = true then k (mkG n f) (mkG m s) (mkG o t) else Ks547.no (-22) := by
  unfold Ks549.three
  rw [two_eq hn hm hf hs]
  unfold Ks547.graph
  rw [graphOf_eq ho ht]
  by_cases a : isG n f = true
  · by_cases b : isG m s = true
    · by_cases c : isG o t = true
      · simp only [a, b, c, Bool.and_self, if_true]
      · simp only [a, b, Bool.and_self, if_true, if_neg c]
        rw [if_neg (by simp [c])]
    · rw [if_neg (by simp [b]), if_neg (by simp [b])]
  · rw [if_neg (by simp [a]), if_neg (by simp [a])]
end Gt
namespace Gt
open Ks547 (rows)
/-! ### the three counts -/
def cbeM (n m o : Int) (f s t : List Int) : List Int :=
  if (isG n f && (isG m s && isG o t)) = true then
    if 3 < n ∨ 3 < m then [-75] else [((cnt (n + m).toNat o.toNat (prs f ++ (prs s).map (shift n)) (prs t) : Nat) : Int), ((cnt n.toNat o.toNat (prs f) (prs t) : Nat) : Int), ((cnt m.toNat o.toNat (prs s) (prs t) : Nat) : Int)]
  else [-22]
def cboM (n m o : Int) (f s t : List Int) : List Int :=
  if (isG n f && (isG m s && isG o t)) = true then
    if 3 < n ∨ 3 < m ∨ 3 < o then [-75] else [((cnt o.toNat (n * m).toNat (prs t) (prod m (prs f) (prs s)) : Nat) : Int), ((cnt o.toNat n.toNat (prs t) (prs f) : Nat) : Int), ((cnt o.toNat m.toNat (prs t) (prs s) : Nat) : Int)]
  else [-22]
def cwaM (n m o : Int) (f s t : List Int) : List Int :=
  if (isG n f && (isG m s && isG o t)) = true then
    if 2 < o ∨ 3 < n ∨ 3 < m then [-75] else
      [((cnt o.toNat (rows m.toNat n.toNat).length (prs t) (btw (rows m.toNat n.toNat) (prs f) (prs s) (rows m.toNat n.toNat).length) : Nat) : Int), ((cnt (o * n).toNat m.toNat (prod n (prs t) (prs f)) (prs s) : Nat) : Int)]
  else [-22]
theorem three_and {a b c : Bool} (h : (a && (b && c)) = true) : a = true ∧ b = true ∧ c = true := by
  simp only [Bool.and_eq_true] at h
  exact h
theorem cbe_eq {n m o : Int} {f s t : List Int} (hn : 0 ≤ n) (hm : 0 ≤ m) (ho : 0 ≤ o) (hf : ∀ x ∈ f, 0 ≤ x) (hs : ∀ x ∈ s, 0 ≤ x) (ht : ∀ x ∈ t, 0 ≤ x) : PyKs549.countbeside n m o f s t = cbeM n m o f s t := by
  show Ks549Neutral.out (Ks549.three n.toNat m.toNat o.toNat (f.map Int.toNat) (s.map Int.toNat) (t.map Int.toNat) fun g h i => if 3 < n.toNat ∨ 3 < m.toNat then Ks549.no (-75) else { ret := Ks549.count (Ks549.beside g h) i, out := [Ks549.count g i, Ks549.count h i] }) = _
  rw [three_eq hn hm ho hf hs ht]
  unfold cbeM
  split
  · by_cases c : 3 < n ∨ 3 < m
    · rw [if_pos c, if_pos (by omega)]
      rfl
    · rw [if_neg c, if_neg (by omega), count_eq, count_eq, count_eq, beside_arr hn hf hs, mk_arr hf, mk_arr hs, mk_arr ht]
      show [((cnt (n.toNat + m.toNat) o.toNat _ _ : Nat) : Int), _, _] = _
      rw [show n.toNat + m.toNat = (n + m).toNat by omega]
      rfl
  · rfl
theorem cbo_eq {n m o : Int} {f s t : List Int} (hn : 0 ≤ n) (hm : 0 ≤ m) (ho : 0 ≤ o) (hf : ∀ x ∈ f, 0 ≤ x) (hs : ∀ x ∈ s, 0 ≤ x) (ht : ∀ x ∈ t, 0 ≤ x) : PyKs549.countboth n m o f s t = cboM n m o f s t := by
  show Ks549Neutral.out (Ks549.three n.toNat m.toNat o.toNat (f.map Int.toNat) (s.map Int.toNat) (t.map Int.toNat) fun g h i => if 3 < n.toNat ∨ 3 < m.toNat ∨ 3 < o.toNat then Ks549.no (-75) else { ret := Ks549.count i (Ks549.both g h), out := [Ks549.count i g, Ks549.count i h] }) = _
  rw [three_eq hn hm ho hf hs ht]
  unfold cboM
  split
  · rename_i g
    obtain ⟨g1, g2, g3⟩ := three_and g
    by_cases c : 3 < n ∨ 3 < m ∨ 3 < o
    · rw [if_pos c, if_pos (by omega)]
      rfl
    · rw [if_neg c, if_neg (by omega), count_eq, count_eq, count_eq, mk_arr hf, mk_arr hs, mk_arr ht, ← cnt_congr (fun _ => Iff.rfl) (both_mem hf hs g1 g2)]
      show [((cnt o.toNat (n.toNat * m.toNat) _ _ : Nat) : Int), _, _] = _
      rw [← Int.toNat_mul hn hm]
      rfl
  · rfl
theorem pow27 {m n : Nat} (hm : m ≤ 3) (hn : n ≤ 3) : m ^ n ≤ 27 := by
  by_cases z : m = 0
  · subst z
    exact Nat.le_trans (Nat.pow_le_pow_left (by decide : 0 ≤ 1) n) (by rw [Nat.one_pow]; decide)
  · exact Nat.le_trans (Nat.pow_le_pow_left hm n) (Nat.pow_le_pow_right (by decide) hn)
theorem cwa_eq {n m o : Int} {f s t : List Int} (hn : 0 ≤ n) (hm : 0 ≤ m) (ho : 0 ≤ o) (hf : ∀ x ∈ f, 0 ≤ x) (hs : ∀ x ∈ s, 0 ≤ x) (ht : ∀ x ∈ t, 0 ≤ x) : PyKs549.countways n m o f s t = cwaM n m o f s t := by
  show Ks549Neutral.out (Ks549.three n.toNat m.toNat o.toNat (f.map Int.toNat) (s.map Int.toNat) (t.map Int.toNat) fun g h i => if 27 < m.toNat ^ n.toNat ∨ 2 < o.toNat ∨ 3 < n.toNat ∨ 3 < m.toNat then Ks549.no (-75) else { ret := Ks549.count i (Ks549.ways g h), out := [Ks549.count (Ks549.both i g) h] }) = _
  rw [three_eq hn hm ho hf hs ht]
  unfold cwaM
  split
  · rename_i g
    obtain ⟨g1, g2, g3⟩ := three_and g
    by_cases c : 2 < o ∨ 3 < n ∨ 3 < m
    · rw [if_pos c, if_pos (by omega)]
      rfl
    · have p := pow27 (m := m.toNat) (n := n.toNat) (by omega) (by omega)
      rw [if_neg c, if_neg (by omega), count_eq, count_eq, mk_arr hs, mk_arr ht, ways_arr hs, ← cnt_congr (both_mem ht hf g3 g1) (fun _ => Iff.rfl)]
      show [((cnt o.toNat (rows m.toNat n.toNat).length _ _ : Nat) : Int), ((cnt (o.toNat * n.toNat) m.toNat _ _ : Nat) : Int)] = _
      rw [← Int.toNat_mul ho hn]
  · rfl
/-! ranges -/
theorem mul_rng {a b n m : Int} (ha : 0 ≤ a ∧ a < n) (hb : 0 ≤ b ∧ b < m) : 0 ≤ a * m + b ∧ a * m + b < n * m := by
  have h1 : 0 ≤ a * m := Int.mul_nonneg ha.1 (by omega)
  have h2 : (a + 1) * m ≤ n * m := Int.mul_le_mul_of_nonneg_right (by omega) (by omega)
  rw [Int.add_mul, Int.one_mul] at h2
  omega
theorem prod_rng {n m : Int} {A B : List (Int × Int)} (hA : ∀ p ∈ A, (0 ≤ p.1 ∧ p.1 < n) ∧ 0 ≤ p.2 ∧ p.2 < n) (hB : ∀ p ∈ B, (0 ≤ p.1 ∧ p.1 < m) ∧ 0 ≤ p.2 ∧ p.2 < m) :
    ∀ x ∈ prod m A B, (0 ≤ x.1 ∧ x.1 < n * m) ∧ 0 ≤ x.2 ∧ x.2 < n * m := fun x hx => by
  obtain ⟨p, hp, q, hq, rfl⟩ := mem_prod.mp hx
  exact ⟨mul_rng (hA p hp).1 (hB q hq).1, mul_rng (hA p hp).2 (hB q hq).2⟩
theorem shift_rng {n m : Int} {A B : List (Int × Int)} (hn : 0 ≤ n) (hm : 0 ≤ m) (hA : ∀ p ∈ A, (0 ≤ p.1 ∧ p.1 < n) ∧ 0 ≤ p.2 ∧ p.2 < n) (hB : ∀ p ∈ B, (0 ≤ p.1 ∧ p.1 < m) ∧ 0 ≤ p.2 ∧ p.2 < m) :
    ∀ x ∈ A ++ B.map (shift n), (0 ≤ x.1 ∧ x.1 < n + m) ∧ 0 ≤ x.2 ∧ x.2 < n + m := fun x hx => by
  rcases List.mem_append.mp hx with h | h
  · have := hA x h
    omega
  · obtain ⟨p, hp, rfl⟩ := List.mem_map.mp h
    have := hB p hp
    unfold shift
    simp only
    omega
theorem powB {m n M N : Nat} (hm : m ≤ M) (hM : 0 < M) (hn : n ≤ N) : m ^ n ≤ M ^ N := Nat.le_trans (Nat.pow_le_pow_left hm n) (Nat.pow_le_pow_right hM hn)
theorem mul_low {a b A B : Int} (ha : 1 ≤ a ∧ a ≤ A) (hb : 1 ≤ b ∧ b ≤ B) : 1 ≤ a * b ∧ a * b ≤ A * B :=
  ⟨Int.mul_pos (by omega) (by omega), Int.mul_le_mul ha.2 hb.2 (by omega) (by omega)⟩
end Gt
/-! ### heaps, lists of pairs, ranges: for any program -/
namespace Gt
open PySem PySem.Spec PyProof.Rows L2
theorem small_n {n : Nat} (h : n ≤ 1000000) : n < sizeLine := Nat.lt_of_le_of_lt h (by decide)
theorem same_upd {H : Hp} {D : Addr} {o : HO} (new : H D = none) : Same H (upd H D o) := fun b x e => (upd_ne (ne_of_none e new)).trans e
/-- what was ahead of D stays, whatever D holds -/
theorem same_at {H H' : Hp} {D : Addr} {o : HO} (s : Same H H') (h : H D = none) : Same H (upd H' D o) := fun b x e => by
  rw [upd_ne (ne_of_none e h)]
  exact s b x e
/-- tuples stay -/
def KT (H H' : Hp) : Prop := ∀ t xs, H t = some (.tup xs) → H' t = some (.tup xs)
theorem KT.trans {H H1 H2 : Hp} (a : KT H H1) (b : KT H1 H2) : KT H H2 := fun t xs e => b t xs (a t xs e)
theorem KT.of {H H' : Hp} (s : Same H H') : KT H H' := fun t xs e => s t _ e
theorem KT.lst {H : Hp} {D : Addr} {l : List V} {o : HO} (h : H D = some (.lst l)) : KT H (upd H D o) := fun t xs e => by
  rw [upd_ne (ne_of e h (by intro z; cases z))]
  exact e
theorem KT.new {H : Hp} {D : Addr} {o : HO} (h : H D = none) : KT H (upd H D o) := .of (same_upd h)
/-- vs are pairs of ints, the ints ps -/
inductive TPs (H : Hp) : List V → List (Int × Int) → Prop
  | nil : TPs H [] []
  | cons {t : Addr} {vs : List V} {p : Int × Int} {ps : List (Int × Int)} : H t = some (.tup [.int p.1, .int p.2]) → TPs H vs ps → TPs H (.ref t :: vs) (p :: ps)
theorem TPs.mono {H H' : Hp} (k : KT H H') : ∀ {vs : List V} {ps : List (Int × Int)}, TPs H vs ps → TPs H' vs ps
  | _, _, .nil => .nil
  | _, _, .cons e r => .cons (k _ _ e) (TPs.mono k r)
theorem TPs.len {H : Hp} : ∀ {vs : List V} {ps : List (Int × Int)}, TPs H vs ps → vs.length = ps.length
  | _, _, .nil => rfl
  | _, _, .cons _ r => by rw [List.length_cons, List.length_cons, TPs.len r]
theorem TPs.app {H : Hp} : ∀ {vs us : List V} {ps qs : List (Int × Int)}, TPs H vs ps → TPs H us qs → TPs H (vs ++ us) (ps ++ qs)
  | _, _, _, _, .nil, b => b
  | _, _, _, _, .cons e r, b => .cons e (TPs.app r b)
theorem TPs.one {H : Hp} {t : Addr} {p : Int × Int} (e : H t = some (.tup [.int p.1, .int p.2])) : TPs H [.ref t] [p] := .cons e .nil
theorem TPs.get {H : Hp} : ∀ {vs : List V} {ps : List (Int × Int)} {i : Nat} {p : Int × Int}, TPs H vs ps → ps[i]? = some p → ∃ t, vs[i]? = some (.ref t) ∧ H t = some (.tup [.int p.1, .int p.2])
  | _, _, i, p, .nil, h => by simp at h
  | _, _, 0, p, .cons (t := t) e r, h => by
    cases Option.some.inj h
    exact ⟨t, rfl, e⟩
  | _, _, i + 1, p, .cons e r, h => TPs.get r (i := i) h
theorem TPs.at {H : Hp} {vs : List V} {ps : List (Int × Int)} {i : Nat} {v : V} (h : TPs H vs ps) (e : vs[i]? = some v) : ∃ t p, v = .ref t ∧ ps[i]? = some p ∧ H t = some (.tup [.int p.1, .int p.2]) := by
  have hi : i < ps.length := by
    rw [← h.len]
    exact (List.getElem?_eq_some_iff.mp e).1
  obtain ⟨t, e1, e2⟩ := h.get (List.getElem?_eq_getElem hi)
  rw [e] at e1
  exact ⟨t, _, Option.some.inj e1, List.getElem?_eq_getElem hi, e2⟩
theorem take_more {α : Type} {l : List α} {i : Nat} {x : α} (h : l[i]? = some x) : l.take (i + 1) = l.take i ++ [x] := by
  rw [List.take_add_one, h]
  rfl
theorem fits {i : Int} (h1 : -1000 ≤ i) (h2 : i ≤ 100000) : Builtin.Range.rangeFitsLong i = true := by
  unfold Builtin.Range.rangeFitsLong
  rw [Bool.and_eq_true]
  exact ⟨decide_eq_true (by omega), decide_eq_true (by omega)⟩
/-- range(0, n, 2) of an even n -/
theorem rg_two {n : Nat} (hn : n ≤ 1000) (he : n % 2 = 0) : RgC 0 (n : Int) 2 (n / 2) := by
  have e : Builtin.Range.rangeSize 0 (n : Int) 2 = ((n / 2 : Nat) : Int) := by
    unfold Builtin.Range.rangeSize
    rw [if_pos (by decide)]
    split <;> omega
  refine ⟨by decide, by decide, ?_, e⟩
  unfold Builtin.Range.small
  rw [e]
  have f1 := fits (i := 0) (by decide) (by decide)
  have f2 := fits (i := 2) (by decide) (by decide)
  have f3 := fits (i := (n : Int)) (by omega) (by omega)
  have f4 := fits (i := ((n / 2 : Nat) : Int)) (by omega) (by omega)
  have f5 := fits (i := (n : Int) + (2 - 1)) (by omega) (by omega)
  rw [if_pos (show (2 : Int) > 0 by decide)]
  rw [f1, f2, f3, f4, f5]
  cases ((n / 2 : Nat) : Int) == 0 <;> rfl
theorem lex2 (p q : Int × Int) : HT.lexLt [p.1, p.2] [q.1, q.2] = ltB p q := by
  rw [HT.lexLt_cons, HT.lexLt_cons, HT.lexLt_nil_nil]
  unfold ltB
  split
  · split
    · rename_i h
      rw [h]
      simp
    · rfl
  · rfl
theorem prs_get : ∀ {l : List Int} {i : Nat} {u v : Int}, l[2 * i]? = some u → l[2 * i + 1]? = some v → (prs l)[i]? = some (u, v)
  | [], _, _, _, h, _ => by simp at h
  | [_], 0, _, _, _, h => by simp at h
  | [_], i + 1, _, _, h, _ => by simp [Nat.mul_add] at h
  | a :: b :: l, 0, u, v, h1, h2 => by
    cases Option.some.inj h1
    cases Option.some.inj h2
    rfl
  | a :: b :: l, i + 1, u, v, h1, h2 => by
    have e : 2 * (i + 1) = 2 * i + 1 + 1 := by omega
    rw [e] at h1 h2
    exact prs_get (l := l) (i := i) h1 h2
/-- the truths of «each is greater than the one ahead of it», by place -/
def upTo (ps : List (Int × Int)) (i : Nat) : List Bool := (List.range i).map fun j => ltB (ps.getD j (0, 0)) (ps.getD (j + 1) (0, 0))
theorem upTo_more (ps : List (Int × Int)) (i : Nat) : upTo ps (i + 1) = upTo ps i ++ [ltB (ps.getD i (0, 0)) (ps.getD (i + 1) (0, 0))] := by
  unfold upTo
  rw [List.range_succ, List.map_append]
  rfl
theorem upTo_all : ∀ (ps : List (Int × Int)), (upTo ps (ps.length - 1)).all id = rise ps
  | [] => rfl
  | [_] => rfl
  | p :: q :: r => by
    have ih := upTo_all (q :: r)
    unfold upTo at ih ⊢
    have e : (p :: q :: r).length - 1 = ((q :: r).length - 1) + 1 := by
      simp only [List.length_cons]
      omega
    rw [e, List.range_succ_eq_map, List.map_cons, List.all_cons, List.map_map]
    show (ltB p q && _) = (ltB p q && rise (q :: r))
    rw [← ih]
    rfl
end Gt
/-! ### a list that a loop fills; sorted -/
namespace Gt
open PySem PySem.Spec PyProof.Rows L2
/-- all but what stands at o is as it was -/
def SB (o : Addr) (H H' : Hp) : Prop := ∀ b x, b ≠ o → H b = some x → H' b = some x
theorem SB.refl (o : Addr) (H : Hp) : SB o H H := fun _ _ _ h => h
theorem SB.trans {o : Addr} {H H1 H2 : Hp} (a : SB o H H1) (b : SB o H1 H2) : SB o H H2 := fun c x n e => b c x n (a c x n e)
theorem SB.of {o : Addr} {H H' : Hp} (s : Same H H') : SB o H H' := fun b x _ e => s b x e
theorem SB.at {o : Addr} {H : Hp} {x : HO} : SB o H (upd H o x) := fun b y n e => by
  rw [upd_ne n]
  exact e
theorem SB.same {o : Addr} {H0 H H' : Hp} (s : Same H0 H) (h : H0 o = none) (b : SB o H H') : Same H0 H' := fun c x e => b c x (ne_of_none e h) (s c x e)
theorem KT.sb {o : Addr} {H H' : Hp} {l : List V} (s : SB o H H') (h : H o = some (.lst l)) : KT H H' := fun t xs e => s t _ (ne_of e h (by intro z; cases z)) e
/-- the pair of ints that stands at an address -/
def kOf (H : Hp) : V → Int × Int
  | .ref t => match H t with
    | some (.tup [.int i, .int j]) => (i, j)
    | _ => (0, 0)
  | _ => (0, 0)
theorem kOf_ref {H : Hp} {t : Addr} {p : Int × Int} (h : H t = some (.tup [.int p.1, .int p.2])) : kOf H (.ref t) = p := by
  unfold kOf
  simp only [h]
theorem TPs.map {H : Hp} : ∀ {vs : List V} {ps : List (Int × Int)}, TPs H vs ps → vs.map (kOf H) = ps
  | _, _, .nil => rfl
  | _, _, .cons e r => by rw [List.map_cons, kOf_ref e, TPs.map r]
theorem TPs.mem {H : Hp} : ∀ {vs : List V} {ps : List (Int × Int)}, TPs H vs ps → ∀ x ∈ vs, ∃ t, x = .ref t ∧ H t = some (.tup [.int (kOf H x).1, .int (kOf H x).2])
  | _, _, .nil, x, hx => by simp at hx
  | _, _, .cons (t := t) e r, x, hx => by
    rcases List.mem_cons.mp hx with rfl | hx
    · exact ⟨t, rfl, by rw [kOf_ref e]; exact e⟩
    · exact TPs.mem r x hx
theorem TPs.of_mem {H : Hp} : ∀ (vs : List V), (∀ x ∈ vs, ∃ t, x = .ref t ∧ H t = some (.tup [.int (kOf H x).1, .int (kOf H x).2])) → TPs H vs (vs.map (kOf H))
  | [], _ => .nil
  | x :: r, h => by
    obtain ⟨t, rfl, e⟩ := h x (by simp)
    exact .cons e (TPs.of_mem r fun y hy => h y (by simp [hy]))
end Gt
/-! ### lists of lists of ints; a pair in a list of pairs -/
namespace Gt
open PySem PySem.Spec PyProof.Rows L2
def nums (r : List Nat) : List V := r.map fun x => V.int (x : Nat)
theorem nums_at {r : List Nat} {i : Nat} (h : i < r.length) : (nums r)[i]? = some (.int (r.getD i 0 : Nat)) := by
  unfold nums
  rw [List.getElem?_map, List.getD_eq_getElem?_getD, List.getElem?_eq_getElem h]
  rfl
/-- vs are lists of ints, the ints R, at places of which X holds -/
inductive Wls (X : Addr → Prop) (H : Hp) : List V → List (List Nat) → Prop
  | nil : Wls X H [] []
  | cons {t : Addr} {vs : List V} {r : List Nat} {R : List (List Nat)} : X t → H t = some (.lst (nums r)) → Wls X H vs R → Wls X H (.ref t :: vs) (r :: R)
theorem Wls.mono {X Y : Addr → Prop} {H H' : Hp} (k : ∀ t l, X t → H t = some (.lst l) → Y t ∧ H' t = some (.lst l)) : ∀ {vs : List V} {R : List (List Nat)}, Wls X H vs R → Wls Y H' vs R
  | _, _, .nil => .nil
  | _, _, .cons x e r => .cons (k _ _ x e).1 (k _ _ x e).2 (Wls.mono k r)
theorem Wls.same {X : Addr → Prop} {H H' : Hp} (s : Same H H') {vs : List V} {R : List (List Nat)} (h : Wls X H vs R) : Wls X H' vs R := h.mono fun t l x e => ⟨x, s t _ e⟩
theorem Wls.len {X : Addr → Prop} {H : Hp} : ∀ {vs : List V} {R : List (List Nat)}, Wls X H vs R → vs.length = R.length
  | _, _, .nil => rfl
  | _, _, .cons _ _ r => by rw [List.length_cons, List.length_cons, Wls.len r]
theorem Wls.app {X : Addr → Prop} {H : Hp} : ∀ {vs us : List V} {R S : List (List Nat)}, Wls X H vs R → Wls X H us S → Wls X H (vs ++ us) (R ++ S)
  | _, _, _, _, .nil, b => b
  | _, _, _, _, .cons x e r, b => .cons x e (Wls.app r b)
theorem Wls.one {X : Addr → Prop} {H : Hp} {t : Addr} {r : List Nat} (x : X t) (e : H t = some (.lst (nums r))) : Wls X H [.ref t] [r] := .cons x e .nil
theorem Wls.get {X : Addr → Prop} {H : Hp} : ∀ {vs : List V} {R : List (List Nat)} {i : Nat} {r : List Nat}, Wls X H vs R → R[i]? = some r → ∃ t, vs[i]? = some (.ref t) ∧ X t ∧ H t = some (.lst (nums r))
  | _, _, i, r, .nil, h => by simp at h
  | _, _, 0, r, .cons (t := t) x e _, h => by
    cases Option.some.inj h
    exact ⟨t, rfl, x, e⟩
  | _, _, i + 1, r, .cons _ _ q, h => Wls.get q (i := i) h
theorem Wls.at {X : Addr → Prop} {H : Hp} {vs : List V} {R : List (List Nat)} {i : Nat} {v : V} (h : Wls X H vs R) (e : vs[i]? = some v) : ∃ t r, v = .ref t ∧ R[i]? = some r ∧ X t ∧ H t = some (.lst (nums r)) := by
  have hi : i < R.length := by
    rw [← h.len]
    exact (List.getElem?_eq_some_iff.mp e).1
  obtain ⟨t, e1, x, e2⟩ := h.get (List.getElem?_eq_getElem hi)
  rw [e] at e1
  exact ⟨t, _, Option.some.inj e1, List.getElem?_eq_getElem hi, x, e2⟩
/-! a pair in a list of pairs -/
def dP (p : Int × Int) : PyData := .tuple [.int p.1, .int p.2]
theorem dP_eqv (p q : Int × Int) : PyData.eqv (dP p) (dP q) = decide (q = p) := by
  unfold dP
  rw [PyData.eqv, PyData.eqvAll, PyData.eqvAll, PyData.eqvAll, PyData.eqv, PyData.eqv, Bool.eq_iff_iff]
  simp only [Bool.and_eq_true, beq_iff_eq, and_true, decide_eq_true_eq]
  constructor
  · rintro ⟨a, b⟩
    exact Prod.ext a.symm b.symm
  · rintro rfl
    exact ⟨rfl, rfl⟩
theorem dP_any (q : Int × Int) (T : List (Int × Int)) : ((T.map dP).any fun z => PyData.eqv z (dP q)) = decide (q ∈ T) := by
  rw [List.any_map, Bool.eq_iff_iff, List.any_eq_true, decide_eq_true_iff]
  constructor
  · rintro ⟨p, hp, e⟩
    have e : PyData.eqv (dP p) (dP q) = true := e
    rw [dP_eqv, decide_eq_true_iff] at e
    exact e ▸ hp
  · intro h
    refine ⟨q, h, ?_⟩
    show PyData.eqv (dP q) (dP q) = true
    rw [dP_eqv, decide_eq_true_iff]
theorem dP_lay (p : Int × Int) : (dP p).canLay0 = true := by simp [dP, PyData.canLay0, PyData.canLayAll0]
theorem dP_depth (p : Int × Int) : (dP p).depth = 1 := by simp [dP, PyData.depth, PyData.depthAll]
theorem dP_shaped (p : Int × Int) : SeqAt.shaped (dP p) = true := by
  unfold SeqAt.shaped
  rw [dP_lay, dP_depth]
  rfl
theorem dPs_lay : ∀ T : List (Int × Int), PyData.canLayAll0 (T.map dP) = true
  | [] => by simp [PyData.canLayAll0]
  | p :: T => by simp [PyData.canLayAll0, dP_lay p, dPs_lay T]
theorem dPs_depth : ∀ T : List (Int × Int), PyData.depthAll (T.map dP) ≤ 1
  | [] => by simp [PyData.depthAll]
  | p :: T => by
    have := dPs_depth T
    simp [PyData.depthAll, dP_depth p, this]
theorem dPs_shaped (T : List (Int × Int)) : SeqAt.shaped (.list (T.map dP)) = true := by
  unfold SeqAt.shaped
  rw [PyData.canLay0, dPs_lay, PyData.depth, Bool.true_and, decide_eq_true_iff]
  have := dPs_depth T
  omega
theorem TPs.dp {K : PySem.W.Frag} {H : Hp} : ∀ {vs : List V} {ps : List (Int × Int)}, TPs H vs ps → DpAll K H vs (ps.map dP)
  | _, _, .nil => .nil
  | _, _, .cons e r => .cons (.tup (SqT.of e) (.cons (.int _) (.cons (.int _) .nil))) (TPs.dp r)
theorem units65 {k : Nat} {A : Around} (r : Room k A) : A.units + 65 < cLine := by
  have := r.un
  omega
end Gt
/-! ### the text -/
namespace Gt
open PySem PySem.Spec PyProof.Rows L2
def topS (i : Nat) : Stmt := PySem.Challenge.pw_graphstogether_s06_countboth.main.body.getD i (.Pass ⟨0, 0, 0, 0⟩)
abbrev sCbo : Stmt := topS 5
abbrev sIsG : Stmt := topS 10
abbrev sRis : Stmt := topS 11
abbrev sArr : Stmt := topS 12
abbrev sAll : Stmt := topS 8
abbrev sLea : Stmt := topS 9
abbrev sCmp : Stmt := topS 7
abbrev sAOn : Stmt := topS 6
end Gt
/-! ### the defs that all calls share -/
namespace Gt
open PySem PySem.Spec PyProof.Rows L2
theorem scArr : FnScope ["told", "k"] ["told"] (defScope sArr) := ⟨rfl, rfl, rfl, by decide +kernel, rfl, by decide +kernel, by decide +kernel⟩
theorem scRis : FnScope ["arrows", "k"] ["arrows"] (defScope sRis) := ⟨rfl, rfl, rfl, by decide +kernel, rfl, by decide +kernel, by decide +kernel⟩
theorem scIsG : FnScope ["places", "told", "place"] ["places", "told"] (defScope sIsG) := ⟨rfl, rfl, rfl, by decide +kernel, rfl, by decide +kernel, by decide +kernel⟩
def spArr (K : PySem.W.Frag) : Sp := fun vs H Q _ => ∃ (a : Addr) (ns : List Int), vs = [.ref a] ∧ SqL K H a (ns.map V.int) ∧ ns.length ≤ 1000 ∧ ns.length % 2 = 0 ∧
  ∀ (H' : Hp) (p : Addr) (us : List V), Same H H' → H p = none → H' p = some (.lst us) → TPs H' us (prs ns) → Q (.ref p) H'
def spRis : Sp := fun vs H Q _ => ∃ (a : Addr) (us : List V) (ps : List (Int × Int)), vs = [.ref a] ∧ H a = some (.lst us) ∧ TPs H us ps ∧ ps.length ≤ 1000 ∧
  ∀ H' : Hp, Same H H' → Q (.bl (rise ps)) H'
def spIsG (K : PySem.W.Frag) : Sp := fun vs H Q _ => ∃ (n : Int) (a : Addr) (ns : List Int), vs = [.int n, .ref a] ∧ SqL K H a (ns.map V.int) ∧ ns.length ≤ 1000 ∧
  ∀ H' : Hp, Same H H' → Q (.bl (isG n ns)) H'
section
variable {P : Program} {w : World} {K : PySem.W.Frag} {mg : Str → Option Value} {base : Heap}
theorem ok_arr {f : Addr} {fd : FuncData} {k : Nat} (F : Fun K "arrows_of" "arrows_of" sArr f fd) (mr : mg "range" = none) (ml : mg "len" = none) : FnOk P w K mg base CX0 (k + 1) f fd ["told"] (spArr K) := by
  refine F.ok scArr (fun vs H Q E h => ?_) (fun cdv A outer s H vs Q E hr h => ?_)
  · obtain ⟨a, ns, rfl, _⟩ := h
    rfl
  · obtain ⟨a, ns, rfl, hS, hlen, hev, q⟩ := h
    refine ⟨_, pss_one (ps_ret (pe_lc (own := [("k", 1)]) (g := gName 1) (tt := tYes) rfl scArr.nd
      (pi_range3 (by rfl) mr (pa_cons pe_int (pa_cons (pe_callB call_len_seq (by rfl) ml PySem.boot_len (pa_cons (pv 0) pa_nil)) (pa_cons pe_int pa_nil))))
      (blkOk_by (N := ["told", "k"]) (sc := defScope sArr) (by decide +kernel)) (fun _ _ _ _ _ => pg_name (i := 1) scArr.nd rfl (Or.inl rfl)) (fun _ _ _ _ _ => pts_nil)
      (fun _ _ _ _ _ => pe_tup (pa_cons (pe_ix (r := rIxL K) ix_list (pv 0) (pv 1) (fun _ _ => rfl)) (pa_cons (pe_ix (r := rIxL K) ix_list (pv 0) (pe_op op_add (pv 1) pe_int) (fun _ _ => rfl)) pa_nil))))), ?_⟩
    have hl2 : ((ns.map V.int).length : Int) = (ns.length : Int) := by rw [List.length_map]
    refine ⟨.ref a, rfl, a, ns.map V.int, rfl, .inl hS, 0, ((ns.map V.int).length : Int), 2, ns.length / 2, rfl, hl2 ▸ rg_two hlen hev, fun D nD => ?_⟩
    refine lc_it (walk_rangeC (lo := 0) (c := 2) (n := ns.length / 2)) (fun i H1 => Same H H1 ∧ ∃ us, H1 D = some (.lst us) ∧ TPs H1 us ((prs ns).take i)) ⟨same_upd nD, [], upd_same, by rw [List.take_zero]; exact .nil⟩ (fun _ _ _ _ => trivial) ?_ ?_
    · rintro i x H0 H1 hi ⟨s1, us, e1, t1⟩ ⟨e0, rfl⟩
      subst e0
      have h1 : 2 * i < ns.length := by omega
      have h2 : 2 * i + 1 < ns.length := by omega
      have g1 : (ns.map V.int)[2 * i]? = some (.int ns[2 * i]) := by
        rw [List.getElem?_map, List.getElem?_eq_getElem h1]
        rfl
      have g2 : (ns.map V.int)[2 * i + 1]? = some (.int ns[2 * i + 1]) := by
        rw [List.getElem?_map, List.getElem?_eq_getElem h2]
        rfl
      have gp : (prs ns)[i]? = some (ns[2 * i], ns[2 * i + 1]) := prs_get (List.getElem?_eq_getElem h1) (List.getElem?_eq_getElem h2)
      have hA : SqL K H1 a (ns.map V.int) := s1.seq hS
      refine ⟨rfl, ?_⟩
      refine ⟨.ref a, rfl, .int (0 + (i : Nat) * 2), rfl, a, _, 0 + (i : Nat) * 2, .int ns[2 * i], rfl, rfl, hA, at_of (j := 2 * i) (by omega) g1, ?_⟩
      refine ⟨.ref a, rfl, .int (0 + (i : Nat) * 2), rfl, 0 + (i : Nat) * 2, 1, rfl, rfl, a, _, 0 + (i : Nat) * 2 + 1, .int ns[2 * i + 1], rfl, rfl, hA, at_of (j := 2 * i + 1) (by omega) g2, ?_⟩
      refine ⟨(by show 2 ≤ sizeLine; decide), fun T nT => ?_⟩
      have nDT : D ≠ T := ne_of_none e1 nT
      have eD : (upd H1 T (.tup [.int ns[2 * i], .int ns[2 * i + 1]])) D = some (.lst us) := by
        rw [upd_ne nDT]
        exact e1
      refine ⟨us, eD, ?_, ?_⟩
      · rw [t1.len, List.length_take, prs_len]
        exact small_n (by omega)
      · refine ⟨same_at (s1.trans (same_upd nT)) nD, _, upd_same, ?_⟩
        rw [take_more gp]
        refine ((t1.mono (KT.new nT)).mono (KT.lst eD)).app (TPs.one ?_)
        exact KT.lst eD _ _ upd_same
    · rintro H1 ⟨s1, us, e1, t1⟩
      rw [List.take_of_length_le (by rw [prs_len]; exact Nat.le_refl _)] at t1
      exact q H1 D us s1 nD e1 t1
theorem ok_ris {f : Addr} {fd : FuncData} {k : Nat} (F : Fun K "is_rising" "is_rising" sRis f fd) (mr : mg "range" = none) (ml : mg "len" = none) (ma : mg "all" = none) : FnOk P w K mg base CX0 (k + 1) f fd ["arrows"] spRis := by
  refine F.ok scRis (fun vs H Q E h => ?_) (fun cdv A outer s H vs Q E hr h => ?_)
  · obtain ⟨a, us, ps, rfl, _⟩ := h
    rfl
  · obtain ⟨a, us, ps, rfl, hS, ht, hlen, q⟩ := h
    refine ⟨_, pss_one (ps_ret (pe_callB (cr_all rfl) (by rfl) ma (by decide +kernel) (pa_cons (pe_lc (own := [("k", 1)]) (g := gName 1) (tt := tYes) rfl scRis.nd
      (pi_range2 (by rfl) mr (pa_cons pe_int (pa_cons (pe_callB call_len_seq (by rfl) ml PySem.boot_len (pa_cons (pv 0) pa_nil)) pa_nil)))
      (blkOk_by (N := ["arrows", "k"]) (sc := defScope sRis) (by decide +kernel)) (fun _ _ _ _ _ => pg_name (i := 1) scRis.nd rfl (Or.inl rfl)) (fun _ _ _ _ _ => pts_nil)
      (fun _ _ _ _ _ => pe_cmpR (r := rLtT K) (op_ltT hr.units0) (pe_ix (r := rIxL K) ix_list (pv 0) (pe_op op_sub (pv 1) pe_int) (fun _ _ => rfl)) (pe_ix (r := rIxL K) ix_list (pv 0) (pv 1) (fun _ _ => rfl)) (nomark _))) pa_nil))), ?_⟩
    have hl := ht.len
    refine ⟨.ref a, rfl, a, us, rfl, .inl (SqL.of hS), 1, (us.length : Int), rfl, ⟨by decide, by decide, by omega, by omega⟩, fun D nD => ?_⟩
    have nn : ((us.length : Int) - 1).toNat = ps.length - 1 := by omega
    rw [nn]
    refine lc_range (fun i H1 => Same H H1 ∧ H1 D = some (.lst ((upTo ps i).map V.bl))) ⟨same_upd nD, upd_same⟩ ?_ ?_
    · rintro i H1 hi ⟨s1, e1⟩
      have h1 : i < ps.length := by omega
      have h2 : i + 1 < ps.length := by omega
      obtain ⟨t, g1, k1⟩ := ht.get (List.getElem?_eq_getElem h1)
      obtain ⟨t', g2, k2⟩ := ht.get (List.getElem?_eq_getElem h2)
      have hA : SqL K H1 a us := SqL.of (s1 _ _ hS)
      refine ⟨rfl, ?_⟩
      refine ⟨.ref a, rfl, .int (1 + (i : Nat)), rfl, 1 + (i : Nat), 1, rfl, rfl, a, _, 1 + (i : Nat) - 1, .ref t, rfl, rfl, hA, at_of (j := i) (by omega) g1, ?_⟩
      refine ⟨.ref a, rfl, .int (1 + (i : Nat)), rfl, a, _, 1 + (i : Nat), .ref t', rfl, rfl, hA, at_of (j := i + 1) (by omega) g2, ?_⟩
      refine ⟨t, t', [ps[i].1, ps[i].2], [ps[i + 1].1, ps[i + 1].2], rfl, rfl, SqT.of (s1 _ _ k1), SqT.of (s1 _ _ k2), _, e1, ?_, ?_⟩
      · rw [List.length_map]
        unfold upTo
        rw [List.length_map, List.length_range]
        exact small_n (by omega)
      · refine ⟨same_at s1 nD, ?_⟩
        rw [upd_same, lex2, upTo_more, List.map_append, List.getD_eq_getElem?_getD, List.getD_eq_getElem?_getD, List.getElem?_eq_getElem h1, List.getElem?_eq_getElem h2]
        rfl
    · rintro H1 ⟨s1, e1⟩
      refine ⟨D, _, rfl, SqL.of e1, ?_⟩
      rw [upTo_all]
      exact q H1 s1
theorem ok_isg {f fA fR : Addr} {fd fdA fdR : FuncData} {k : Nat} {t5 : Tok} (F : Fun K "is_graph" "is_graph" sIsG f fd) (FA : Fun K "arrows_of" "arrows_of" sArr fA fdA) (bA : Binds K fdA ["told"] []) (gA : mg "arrows_of" = some (.ref fA))
    (FR : Fun K "is_rising" "is_rising" sRis fR fdR) (bR : Binds K fdR ["arrows"] []) (gR : mg "is_rising" = some (.ref fR)) (gM : mg "MOST_PLACES" = some (.int 5 t5)) (mr : mg "range" = none) (ml : mg "len" = none) (ma : mg "all" = none) :
    FnOk P w K mg base CX0 (k + 2) f fd ["places", "told"] (spIsG K) := by
  have GA : FnOk P w K mg base CX0 (k + 1) fA fdA ["told"] (spArr K) := ok_arr FA mr ml
  have GR : FnOk P w K mg base CX0 (k + 1) fR fdR ["arrows"] spRis := ok_ris FR mr ml ma
  refine F.ok scIsG (fun vs H Q E h => ?_) (fun cdv A outer s H vs Q E hr h => ?_)
  · obtain ⟨n, a, ns, rfl, _⟩ := h
    rfl
  · obtain ⟨n, a, ns, rfl, hS, hlen, q⟩ := h
    refine ⟨_, pss_cons (ps_if (pw_or (pt_cmpR op_lt (pv 0) pe_int (nomark _)) (pw_or (pt_cmpR op_gt (pv 0) (pe_glob (v := .int 5) (by rfl) gM ⟨_, rfl⟩) (nomark _))
        (pw_or1 (pt_cmpR op_ne (pe_op op_mod (pe_callB call_len_seq (by rfl) ml PySem.boot_len (pa_cons (pv 1) pa_nil)) pe_int) pe_int (nomark _))))).pt
        (pss_one (ps_ret pe_bl)) pss_nil)
      (pss_one (ps_ret (pe_and (pe_callB (cr_all rfl) (by rfl) ma (by decide +kernel) (pa_cons (pe_lc (own := [("place", 2)]) (g := gName 2) (tt := tYes) rfl scIsG.nd (pi_list (pv 1))
          (blkOk_by (N := ["places", "told", "place"]) (sc := defScope sIsG) (by decide +kernel)) (fun _ _ _ _ _ => pg_name (i := 2) scIsG.nd rfl (Or.inl rfl)) (fun _ _ _ _ _ => pts_nil)
          (fun _ _ _ _ _ => pe_cmpR op_lt (pv 2) (pv 0) (nomark _))) pa_nil))
        (pe_one (pe_call GR hr (by rfl) gR FR.kp bR .nil pass0 (pa_cons (pe_call GA hr (by rfl) gA FA.kp bA .nil pass0 (pa_cons (pv 1) pa_nil)) pa_nil)))))), ?_⟩
    -- places < 1
    refine ⟨.int n, rfl, n, 1, rfl, rfl, _, rfl, ite2 (fun c => ?_) (fun c => ?_)⟩
    · refine iteT ?_
      have e : isG n ns = false := by
        unfold isG
        rw [if_pos (.inl (of_decide_eq_true c))]
      exact e ▸ q H (Same.refl H)
    -- places > MOST_PLACES
    · refine ⟨.int n, rfl, n, 5, rfl, rfl, _, rfl, ite2 (fun c2 => ?_) (fun c2 => ?_)⟩
      · refine iteT ?_
        have e : isG n ns = false := by
          unfold isG
          rw [if_pos (.inr (.inl (of_decide_eq_true c2)))]
        exact e ▸ q H (Same.refl H)
      -- len(told) % 2 != 0
      · refine ⟨.ref a, rfl, a, ns.map V.int, rfl, .inl hS, ((ns.map V.int).length : Int), 2, rfl, rfl, (by show (0 : Int) < 2; decide), rfl, _, rfl, ite2 (fun c3 => ?_) (fun c3 => ?_)⟩
        · have od : ns.length % 2 ≠ 0 := by
            intro z
            have c5 : (!decide (V.int (((ns.map V.int).length : Int) % 2) = V.int 0)) = true := c3
            rw [List.length_map, show ((ns.length : Int) % 2) = 0 by omega, decide_eq_true rfl] at c5
            cases c5
          have e : isG n ns = false := by
            unfold isG
            rw [if_pos (.inr (.inr od))]
          exact e ▸ q H (Same.refl H)
        · have ev : ns.length % 2 = 0 := by
            rw [List.length_map] at c3
            simp only [Bool.not_eq_true', decide_eq_false_iff_not, Classical.not_not] at c3
            have := V.int.inj c3
            omega
          have n1 : ¬ (n < 1 ∨ 5 < n ∨ ns.length % 2 ≠ 0) := by
            simp only [decide_eq_true_eq] at c c2
            omega
          -- all([place < places for place in told])
          refine ⟨.ref a, rfl, a, rfl, ⟨_, hS⟩, fun D nD => ?_⟩
          refine lc_list (K := K) (a := a) (xs := ns.map V.int) (fun i H1 => Same H H1 ∧ H1 D = some (.lst (((ns.take i).map fun x => decide (x < n)).map V.bl))) ⟨same_upd nD, upd_same⟩ (fun i H1 _ h1 => h1.1.seq hS) ?_ ?_
          · rintro i x H1 hx ⟨s1, e1⟩
            rw [List.getElem?_map] at hx
            obtain ⟨z, hz, rfl⟩ := Option.map_eq_some_iff.mp hx
            refine ⟨rfl, ?_⟩
            refine ⟨.int z, rfl, .int n, rfl, z, n, rfl, rfl, _, e1, ?_, same_at s1 nD, ?_⟩
            · rw [List.length_map, List.length_map, List.length_take]
              exact small_n (by omega)
            · rw [upd_same, take_more hz, List.map_append, List.map_append]
              rfl
          · rintro H1 ⟨s1, e1⟩
            rw [List.length_map, List.take_length] at e1
            refine ⟨D, _, rfl, SqL.of e1, _, rfl, ite2 (fun c4 => ?_) (fun c4 => ?_)⟩
            · -- is_rising(arrows_of(told))
              refine ⟨.ref a, rfl, a, ns, rfl, s1.seq hS, hlen, ev, fun H2 p us s2 _ e2 t2 => ?_⟩
              refine ⟨p, us, _, rfl, e2, t2, by rw [prs_len]; omega, fun H3 s3 => ?_⟩
              have e : isG n ns = rise (prs ns) := by
                unfold isG
                rw [if_neg n1]
                rw [List.all_map] at c4
                rw [show (ns.all fun x => decide (x < n)) = true from c4, Bool.true_and]
              exact e ▸ q H3 (s1.trans (s2.trans s3))
            · have e : isG n ns = false := by
                unfold isG
                rw [if_neg n1]
                rw [List.all_map] at c4
                rw [show (ns.all fun x => decide (x < n)) = false from Bool.eq_false_iff.mpr c4, Bool.false_and]
              exact e ▸ q H1 s1
end
end Gt
/-! ### all_ways -/
namespace Gt
open PySem PySem.Spec PyProof.Rows L2
theorem scAll : FnScope ["n", "m", "every_way", "place", "longer", "way", "given"] ["n", "m"] (defScope sAll) := ⟨rfl, rfl, rfl, by decide +kernel, rfl, by decide +kernel, by decide +kernel⟩
def spAll : Sp := fun vs H Q _ => ∃ n m : Int, vs = [.int n, .int m] ∧ (1 ≤ n ∧ n ≤ 30) ∧ (1 ≤ m ∧ m ≤ 30) ∧ m.toNat ^ n.toNat ≤ 20000 ∧
  ∀ (H' : Hp) (p : Addr) (us : List V), Same H H' → H' p = some (.lst us) → Wls (fun _ => True) H' us (Ks547.rows m.toNat n.toNat) → Q (.ref p) H'
section
variable {P : Program} {w : World} {K : PySem.W.Frag} {mg : Str → Option Value} {base : Heap}
theorem ok_all {f : Addr} {fd : FuncData} {k : Nat} (F : Fun K "all_ways" "all_ways" sAll f fd) (mr : mg "range" = none) : FnOk P w K mg base CX0 (k + 1) f fd ["n", "m"] spAll := by
  refine F.ok scAll (fun vs H Q E h => ?_) (fun cdv A outer s H vs Q E hr h => ?_)
  · obtain ⟨n, m, rfl, _⟩ := h
    rfl
  · obtain ⟨n, m, rfl, hn, hm, hpow, q⟩ := h
    refine ⟨_, pss_cons (ps_set (i := 2) scAll.nd rfl (.inl rfl) (pe_lst (pa_cons (pe_lst pa_nil) pa_nil)))
      (pss_cons (ps_for PassesOwn.never rfl (pi_range1 (by rfl) mr (pa_cons (pv 0) pa_nil)) (pg_name (i := 3) scAll.nd rfl (Or.inl rfl))
        (pss_cons (ps_set (i := 4) scAll.nd rfl (.inl rfl) (pe_lst pa_nil))
        (pss_cons (ps_for PassesOwn.never rfl (pi_list (pv 2)) (pg_name (i := 5) scAll.nd rfl (Or.inr rfl))
          (pss_one (ps_expr (pe_bm PySem.F.plainAttrs_list PySem.F.slot_list_extend PySem.F.type_list_extend mt_extend (pv 4)
            (pa_cons (pe_lc (own := [("given", 6)]) (g := gName 6) (tt := tYes) rfl scAll.nd (pi_range1 (by rfl) mr (pa_cons (pv 1) pa_nil))
              (blkOk_by (N := ["n", "m", "every_way", "place", "longer", "way", "given"]) (sc := defScope sAll) (by decide +kernel)) (fun _ _ _ _ _ => pg_name (i := 6) scAll.nd rfl (Or.inl rfl)) (fun _ _ _ _ _ => pts_nil)
              (fun _ _ _ _ _ => pe_op op_cat (pv 5) (pe_lst (pa_cons (pv 6) pa_nil)))) pa_nil)))))
        (pss_one (ps_set (i := 2) scAll.nd rfl (.inl rfl) (pv 4))))))
      (pss_one (ps_ret (pv 2)))), ?_⟩
    -- every_way = [[]]
    refine ⟨Nat.zero_le _, fun z nz => ⟨(by show 1 ≤ sizeLine; decide), fun p np => ?_⟩⟩
    have npz : z ≠ p := ne_of_none upd_same np
    have s0 : Same H (upd (upd H z (.lst [])) p (.lst [.ref z])) := (same_upd nz).trans (same_upd np)
    refine ⟨.int n, rfl, n, rfl, by omega, by omega, for_range (lo := 0) (n := n.toNat) (fun i σ H1 => ∃ p us y3 y4 y5 y6, σ = [some (.int n), some (.int m), some (.ref p), y3, y4, y5, y6] ∧ Same H H1 ∧ H1 p = some (.lst us) ∧ Wls (fun _ => True) H1 us (Ks547.rows m.toNat i))
      ⟨p, _, none, none, none, none, rfl, s0, upd_same, .one trivial (by rw [upd_ne npz, upd_same]; rfl)⟩ ?_ ?_⟩
    · rintro i σ H1 hi ⟨p, us, y3, y4, y5, y6, rfl, s1, e1, w1⟩
      have hR : (Ks547.rows m.toNat i).length ≤ 20000 := by
        rw [rows_len]
        exact Nat.le_trans (Nat.pow_le_pow_right (by omega) (by omega)) hpow
      -- longer = []
      refine ⟨Nat.zero_le _, fun o no => ?_⟩
      have s2 : Same H1 (upd H1 o (.lst [])) := same_upd no
      refine ⟨.ref p, rfl, p, rfl, ⟨_, SqL.of (s2 _ _ e1)⟩, for_list (K := K) (a := p) (xs := us) (fun j σ H3 => ∃ y5 y6, σ = [some (.int n), some (.int m), some (.ref p), some (.int (0 + (i : Nat))), some (.ref o), y5, y6] ∧ Same H1 H3 ∧
          ∃ ws, H3 o = some (.lst ws) ∧ Wls (fun t => t ≠ o) H3 ws (((Ks547.rows m.toNat i).take j).flatMap fun r => (List.range m.toNat).map fun x => r ++ [x]))
        ⟨y5, y6, rfl, s2, [], upd_same, by rw [List.take_zero]; exact .nil⟩ (fun j σ H3 _ h3 => by
          obtain ⟨_, _, _, s3, _⟩ := h3
          exact SqL.of (s3 _ _ e1)) ?_ ?_⟩
      · rintro j x σ H3 hx ⟨z5, z6, rfl, s3, ws, e3, w3⟩
        obtain ⟨t, r, rfl, hr', _, kt⟩ := w1.at hx
        have kt3 := s3 _ _ kt
        have rl : r.length = i := (rows_mem.mp (List.mem_of_getElem? hr')).1
        refine ⟨.ref o, rfl, .inl ⟨rfl, _, SqL.of e3⟩, .int m, rfl, m, rfl, by omega, by omega, fun D nD => ?_⟩
        refine lc_range (lo := 0) (n := m.toNat) (fun k H4 => Same H3 H4 ∧ ∃ zs, H4 D = some (.lst zs) ∧ Wls (fun t => t ≠ o ∧ t ≠ D) H4 zs ((List.range k).map fun x => r ++ [x])) ⟨same_upd nD, [], upd_same, .nil⟩ ?_ ?_
        · rintro k H4 hk ⟨s4, zs, e4, w4⟩
          refine ⟨rfl, ?_⟩
          refine ⟨.ref t, rfl, .int (0 + (k : Nat)), rfl, (by show 1 ≤ sizeLine; decide), fun b nb => ?_⟩
          have et : (upd H4 b (.lst [.int (0 + (k : Nat))])) t = some (.lst (nums r)) := (same_upd nb) _ _ (s4 _ _ kt3)
          refine ⟨t, b, nums r, [.int (0 + (k : Nat))], rfl, rfl, et, upd_same, ?_, fun c nc => ?_⟩
          · have : (nums r).length = r.length := by
              unfold nums
              rw [List.length_map]
            rw [this, rl]
            exact Nat.le_of_lt (small_n (by show i + 1 ≤ _; omega))
          · have s5 : Same H4 (upd (upd H4 b (.lst [.int (0 + (k : Nat))])) c (.lst (nums r ++ [.int (0 + (k : Nat))]))) := (same_upd nb).trans (same_upd nc)
            have eD : (upd (upd H4 b (.lst [.int (0 + (k : Nat))])) c (.lst (nums r ++ [.int (0 + (k : Nat))]))) D = some (.lst zs) := s5 _ _ e4
            have cD : c ≠ D := fun z => by
              rw [z, upd_ne (ne_of_none e4 nb), e4] at nc
              cases nc
            have co : c ≠ o := fun z => by
              rw [z, upd_ne (ne_of_none (s4 _ _ e3) nb), s4 _ _ e3] at nc
              cases nc
            refine ⟨zs, eD, ?_, same_at (s4.trans s5) nD, _, upd_same, ?_⟩
            · rw [w4.len, List.length_map, List.length_range]
              exact small_n (by omega)
            · rw [List.range_succ, List.map_append]
              refine ((w4.same s5).mono fun t l x e => ⟨x, by rw [upd_ne x.2]; exact e⟩).app (.one ⟨co, cD⟩ ?_)
              rw [upd_ne cD, upd_same]
              unfold nums
              rw [List.map_append, Int.zero_add]
              rfl
        · rintro H4 ⟨s4, zs, e4, w4⟩
          refine ⟨o, D, ws, zs, rfl, rfl, s4 _ _ e3, e4, ?_, ?_⟩
          · rw [w3.len, w4.len, List.length_map, List.length_range]
            have hj : (((Ks547.rows m.toNat i).take j).flatMap fun r => (List.range m.toNat).map fun x => r ++ [x]).length ≤ 20000 * 30 := by
              refine Nat.le_trans (m := ((Ks547.rows m.toNat i).take j).length * m.toNat) ?_ (Nat.mul_le_mul (Nat.le_trans (List.length_take_le' _ _) hR) (by omega))
              generalize (Ks547.rows m.toNat i).take j = l
              induction l with
              | nil => simp
              | cons a l ih =>
                rw [List.flatMap_cons, List.length_append, List.length_map, List.length_range, List.length_cons, Nat.succ_mul]
                omega
            exact Nat.le_of_lt (small_n (by omega))
          · have nDo : o ≠ D := ne_of_none e3 nD
            refine ⟨_, _, rfl, same_at (s3.trans s4) no, _, upd_same, ?_⟩
            rw [take_more hr', List.flatMap_append, List.flatMap_cons, List.flatMap_nil, List.append_nil]
            refine Wls.app ((w3.same s4).mono fun t l x e => ⟨x, by rw [upd_ne x]; exact e⟩) (w4.mono fun t l x e => ⟨x.1, by rw [upd_ne x.1]; exact e⟩)
      · rintro σ H3 ⟨z5, z6, rfl, s3, ws, e3, w3⟩
        rw [w1.len, List.take_length, ← rows_snoc] at w3
        exact ⟨.ref o, rfl, o, ws, _, _, _, _, rfl, s1.trans s3, e3, w3.mono fun t l _ e => ⟨trivial, e⟩⟩
    · rintro σ H1 ⟨p, us, y3, y4, y5, y6, rfl, s1, e1, w1⟩
      exact ⟨.ref p, rfl, q H1 p us s1 e1 w1⟩
end
end Gt
/-! ### leads -/
namespace Gt
open PySem PySem.Spec PyProof.Rows L2
theorem scLea : FnScope ["one", "other", "arrows", "targets", "u", "v"] ["one", "other", "arrows", "targets"] (defScope sLea) := ⟨rfl, rfl, rfl, by decide +kernel, rfl, by decide +kernel, by decide +kernel⟩
def spLea : Sp := fun vs H Q _ => ∃ (a b c d : Addr) (one other : List Nat) (ua ut : List V) (A T : List (Int × Int)), vs = [.ref a, .ref b, .ref c, .ref d] ∧ H a = some (.lst (nums one)) ∧ H b = some (.lst (nums other)) ∧
  H c = some (.lst ua) ∧ TPs H ua A ∧ H d = some (.lst ut) ∧ TPs H ut T ∧ A.length ≤ 1000 ∧ (∀ p ∈ A, (0 ≤ p.1 ∧ p.1 < one.length) ∧ 0 ≤ p.2 ∧ p.2 < other.length) ∧
  ∀ H' : Hp, Same H H' → Q (.bl (lead A T one other)) H'
theorem lead_more {A T : List (Int × Int)} {one other : List Nat} {i : Nat} {p : Int × Int} (h : A[i]? = some p) :
    lead (A.take (i + 1)) T one other = (lead (A.take i) T one other && decide ((((one.getD p.1.toNat 0 : Nat) : Int), ((other.getD p.2.toNat 0 : Nat) : Int)) ∈ T)) := by
  unfold lead
  rw [take_more h, List.all_append]
  simp
theorem lead_no {A T : List (Int × Int)} {one other : List Nat} {p : Int × Int} (h : p ∈ A) (n : ¬ (((one.getD p.1.toNat 0 : Nat) : Int), ((other.getD p.2.toNat 0 : Nat) : Int)) ∈ T) : lead A T one other = false := by
  cases e : lead A T one other with
  | false => rfl
  | true =>
    unfold lead at e
    exact absurd (of_decide_eq_true (List.all_eq_true.mp e p h)) n
section
variable {P : Program} {w : World} {K : PySem.W.Frag} {mg : Str → Option Value} {base : Heap}
theorem ok_lea {f : Addr} {fd : FuncData} {k : Nat} (F : Fun K "leads" "leads" sLea f fd) : FnOk P w K mg base CX0 (k + 1) f fd ["one", "other", "arrows", "targets"] spLea := by
  refine F.ok scLea (fun vs H Q E h => ?_) (fun cdv A outer s H vs Q E hr h => ?_)
  · obtain ⟨a, b, c, d, one, other, ua, ut, A, T, rfl, _⟩ := h
    rfl
  · obtain ⟨a, b, c, d, one, other, ua, ut, A, T, rfl, ha, hb, hc, tc, hd, td, hlen, hin, q⟩ := h
    refine ⟨_, pss_cons (ps_for PassesOwn.never rfl (pi_list (pv 2)) (pg_tup rfl (pgs_cons (pg_name (i := 4) scLea.nd rfl (.inl rfl)) (pgs_cons (pg_name (i := 5) scLea.nd rfl (.inl rfl)) pgs_nil)))
        (pss_one (ps_if (pt_cmpR (r := rNotInD K) (op_notInD (units65 hr)) (pe_tup (pa_cons (pe_ix (r := rIxL K) ix_list (pv 0) (pv 4) (fun _ _ => rfl)) (pa_cons (pe_ix (r := rIxL K) ix_list (pv 1) (pv 5) (fun _ _ => rfl)) pa_nil))) (pv 3) (by rfl))
          (pss_one (ps_ret pe_bl)) pss_nil)))
      (pss_one (ps_ret pe_bl)), ?_⟩
    refine ⟨.ref c, rfl, c, rfl, ⟨_, SqL.of hc⟩, for_list (K := K) (a := c) (xs := ua) (fun i σ H1 => ∃ y4 y5, σ = [some (.ref a), some (.ref b), some (.ref c), some (.ref d), y4, y5] ∧ Same H H1 ∧ lead (A.take i) T one other = true)
      ⟨none, none, rfl, Same.refl H, rfl⟩ (fun i σ H1 _ h1 => by
        obtain ⟨_, _, _, s1, _⟩ := h1
        exact SqL.of (s1 _ _ hc)) ?_ ?_⟩
    · rintro i x σ H1 hx ⟨y4, y5, rfl, s1, e1⟩
      obtain ⟨t, p, rfl, hp, kt⟩ := tc.at hx
      have hin1 := hin p (List.mem_of_getElem? hp)
      refine ⟨t, [.int p.1, .int p.2], rfl, SqT.of (s1 _ _ kt), rfl, .int p.1, [.int p.2], rfl, .int p.2, [], rfl, rfl, ?_⟩
      refine ⟨.ref a, rfl, .int p.1, rfl, a, _, p.1, _, rfl, rfl, SqL.of (s1 _ _ ha), at_of (j := p.1.toNat) (by omega) (nums_at (by omega)), ?_⟩
      refine ⟨.ref b, rfl, .int p.2, rfl, b, _, p.2, _, rfl, rfl, SqL.of (s1 _ _ hb), at_of (j := p.2.toNat) (by omega) (nums_at (by omega)), ?_⟩
      refine ⟨(by show 2 ≤ sizeLine; decide), fun z nz => ?_⟩
      have s2 : Same H1 (upd H1 z (.tup [.int ((one.getD p.1.toNat 0 : Nat) : Int), .int ((other.getD p.2.toNat 0 : Nat) : Int)])) := same_upd nz
      refine ⟨.ref d, rfl, dP (((one.getD p.1.toNat 0 : Nat) : Int), ((other.getD p.2.toNat 0 : Nat) : Int)), T.map dP, .tup (SqT.of upd_same) (.cons (.int _) (.cons (.int _) .nil)), .lst (SqL.of (s2 _ _ (s1 _ _ hd))) ((td.mono (KT.of (s1.trans s2))).dp), dP_shaped _, dPs_shaped _, ?_⟩
      refine ⟨_, rfl, ite2 (fun c1 => ?_) (fun c1 => ?_)⟩
      · rw [dP_any] at c1
        have n1 : ¬ (((one.getD p.1.toNat 0 : Nat) : Int), ((other.getD p.2.toNat 0 : Nat) : Int)) ∈ T := fun z => by
          rw [decide_eq_true z] at c1
          cases c1
        exact lead_no (List.mem_of_getElem? hp) n1 ▸ q _ (s1.trans s2)
      · rw [dP_any] at c1
        refine ⟨_, _, rfl, s1.trans s2, ?_⟩
        rw [lead_more hp, e1, Bool.true_and]
        simpa using c1
    · rintro σ H1 ⟨y4, y5, rfl, s1, e1⟩
      rw [tc.len, List.take_length] at e1
      exact e1 ▸ q H1 s1
end
end Gt
/-! ### count_maps -/
namespace Gt
open PySem PySem.Spec PyProof.Rows L2
theorem scCmp : FnScope ["places", "arrows", "target_places", "targets", "every_way", "way"] ["places", "arrows", "target_places", "targets"] (defScope sCmp) := ⟨rfl, rfl, rfl, by decide +kernel, rfl, by decide +kernel, by decide +kernel⟩
def spCmp : Sp := fun vs H Q _ => ∃ (n m : Int) (c d : Addr) (ua ut : List V) (A T : List (Int × Int)), vs = [.int n, .ref c, .int m, .ref d] ∧ H c = some (.lst ua) ∧ TPs H ua A ∧ H d = some (.lst ut) ∧ TPs H ut T ∧ A.length ≤ 1000 ∧
  (1 ≤ n ∧ n ≤ 30) ∧ (1 ≤ m ∧ m ≤ 30) ∧ m.toNat ^ n.toNat ≤ 20000 ∧ (∀ p ∈ A, (0 ≤ p.1 ∧ p.1 < n) ∧ 0 ≤ p.2 ∧ p.2 < n) ∧
  ∀ H' : Hp, Same H H' → Q (.int ((cnt n.toNat m.toNat A T : Nat) : Int)) H'
section
variable {P : Program} {w : World} {K : PySem.W.Frag} {mg : Str → Option Value} {base : Heap}
theorem ok_cmp {f fE fL : Addr} {fd fdE fdL : FuncData} {k : Nat} (F : Fun K "count_maps" "count_maps" sCmp f fd) (FE : Fun K "all_ways" "all_ways" sAll fE fdE) (bE : Binds K fdE ["n", "m"] []) (gE : mg "all_ways" = some (.ref fE))
    (FL : Fun K "leads" "leads" sLea fL fdL) (bL : Binds K fdL ["one", "other", "arrows", "targets"] []) (gL : mg "leads" = some (.ref fL)) (mr : mg "range" = none) (ml : mg "len" = none) : FnOk P w K mg base CX0 (k + 2) f fd ["places", "arrows", "target_places", "targets"] spCmp := by
  have GE : FnOk P w K mg base CX0 (k + 1) fE fdE ["n", "m"] spAll := ok_all FE mr
  have GL : FnOk P w K mg base CX0 (k + 1) fL fdL ["one", "other", "arrows", "targets"] spLea := ok_lea FL
  refine F.ok scCmp (fun vs H Q E h => ?_) (fun cdv A outer s H vs Q E hr h => ?_)
  · obtain ⟨n, m, c, d, ua, ut, A, T, rfl, _⟩ := h
    rfl
  · obtain ⟨n, m, c, d, ua, ut, A, T, rfl, hc, tc, hd, td, hlen, hn, hm, hpow, hin, q⟩ := h
    refine ⟨_, pss_cons (ps_set (i := 4) scCmp.nd rfl (.inl rfl) (pe_call GE hr (by rfl) gE FE.kp bE .nil pass0 (pa_cons (pv 0) (pa_cons (pv 2) pa_nil))))
      (pss_one (ps_ret (pe_callB call_len_seq (by rfl) ml PySem.boot_len (pa_cons (pe_lc (own := [("way", 5)]) (g := gName 5) rfl scCmp.nd (pi_list (pv 4))
        (blkOk_by (N := ["places", "arrows", "target_places", "targets", "every_way", "way"]) (sc := defScope sCmp) (by decide +kernel)) (fun _ _ _ _ _ => pg_name (i := 5) scCmp.nd rfl (Or.inl rfl))
        (fun _ _ _ _ _ => pts_one (pt_val (pe_call GL hr (by rfl) gL FL.kp bL .nil pass0 (pa_cons (pv 5) (pa_cons (pv 5) (pa_cons (pv 1) (pa_cons (pv 3) pa_nil)))))))
        (fun _ _ _ _ _ => pv 5)) pa_nil)))), ?_⟩
    -- every_way = all_ways(places, target_places)
    refine ⟨.int n, rfl, .int m, rfl, n, m, rfl, hn, hm, hpow, fun H1 p us s1 e1 w1 => ?_⟩
    have hR : (Ks547.rows m.toNat n.toNat).length ≤ 20000 := by
      rw [rows_len]
      exact hpow
    refine ⟨.ref p, rfl, p, rfl, ⟨_, SqL.of e1⟩, fun D nD => ?_⟩
    refine lc_list (K := K) (a := p) (xs := us) (fun i H2 => Same H1 H2 ∧ ∃ ws, H2 D = some (.lst ws) ∧ ws.length = (((Ks547.rows m.toNat n.toNat).take i).filter fun r => lead A T r r).length)
      ⟨same_upd nD, [], upd_same, by rw [List.take_zero]; rfl⟩ (fun i H2 _ h2 => SqL.of (h2.1 _ _ e1)) ?_ ?_
    · rintro i x H2 hx ⟨s2, ws, e2, l2⟩
      obtain ⟨t, r, rfl, hr', _, kt⟩ := w1.at hx
      have rl : r.length = n.toNat := (rows_mem.mp (List.mem_of_getElem? hr')).1
      have s02 := s1.trans s2
      have kt2 := s2 _ _ kt
      refine ⟨rfl, ?_⟩
      refine ⟨.ref t, rfl, .ref t, rfl, .ref c, rfl, .ref d, rfl, t, t, c, d, r, r, ua, ut, A, T, rfl, kt2, kt2, s02 _ _ hc, tc.mono (KT.of s02), s02 _ _ hd, td.mono (KT.of s02), hlen, fun z hz => ?_, fun H3 s3 => ⟨_, rfl, ite2 (fun c1 => ?_) (fun c1 => ?_)⟩⟩
      · have := hin z hz
        omega
      · refine ⟨.ref t, rfl, ws, s3 _ _ e2, ?_, same_at (s2.trans s3) nD, _, upd_same, ?_⟩
        · rw [l2]
          exact small_n (Nat.le_trans (List.length_filter_le _ _) (Nat.le_trans (List.length_take_le' _ _) (by omega)))
        · rw [List.length_append, l2, take_more hr', List.filter_append, List.length_append, List.filter_cons_of_pos (p := fun r => lead A T r r) c1]
          rfl
      · refine ⟨s2.trans s3, ws, s3 _ _ e2, ?_⟩
        rw [l2, take_more hr', List.filter_append, List.length_append, List.filter_cons_of_neg (p := fun r => lead A T r r) c1]
        rfl
    · rintro H2 ⟨s2, ws, e2, l2⟩
      rw [w1.len, List.take_length] at l2
      refine ⟨D, ws, rfl, .inl (SqL.of e2), ?_⟩
      rw [l2]
      exact q H2 (s1.trans s2)
end
end Gt
/-! ### arrows_at_once -/
namespace Gt
open PySem PySem.Spec PyProof.Rows L2
theorem scAOn : FnScope ["m", "one", "other", "arrows", "u", "u_end", "v", "v_end"] ["m", "one", "other"] (defScope sAOn) := ⟨rfl, rfl, rfl, by decide +kernel, rfl, by decide +kernel, by decide +kernel⟩
def spAOn : Sp := fun vs H Q _ => ∃ (m : Int) (a b : Addr) (ua ub : List V) (A B : List (Int × Int)), vs = [.int m, .ref a, .ref b] ∧ H a = some (.lst ua) ∧ TPs H ua A ∧ H b = some (.lst ub) ∧ TPs H ub B ∧ A.length ≤ 30 ∧ B.length ≤ 30 ∧ (1 ≤ m ∧ m ≤ 5) ∧
  ∀ (H' : Hp) (p : Addr) (us : List V) (ys : List (Int × Int)), Same H H' → H' p = some (.lst us) → TPs H' us ys → ys.Perm (prod m A B) → ys.Pairwise (fun p q => ltB q p = false) → Q (.ref p) H'
theorem prod_len (m : Int) (A B : List (Int × Int)) : (prod m A B).length = A.length * B.length := by
  unfold prod
  induction A with
  | nil => simp
  | cons p r ih => rw [List.flatMap_cons, List.length_append, ih, List.length_map, List.length_cons, Nat.succ_mul, Nat.add_comm]
theorem prod_more {m : Int} {A B : List (Int × Int)} {i : Nat} {p : Int × Int} (h : A[i]? = some p) : prod m (A.take (i + 1)) B = prod m (A.take i) B ++ B.map (pairUp m p) := by
  unfold prod
  rw [take_more h, List.flatMap_append]
  simp
theorem prod_few (m : Int) {A B : List (Int × Int)} (ha : A.length ≤ 30) (hb : B.length ≤ 30) : (prod m A B).length ≤ 900 := by
  rw [prod_len]
  exact Nat.mul_le_mul ha hb
section
variable {P : Program} {w : World} {K : PySem.W.Frag} {mg : Str → Option Value} {base : Heap}
theorem ok_aon {f : Addr} {fd : FuncData} {k : Nat} (F : Fun K "arrows_at_once" "arrows_at_once" sAOn f fd) (ms' : mg "sorted" = none) : FnOk P w K mg base CX0 (k + 1) f fd ["m", "one", "other"] spAOn := by
  refine F.ok scAOn (fun vs H Q E h => ?_) (fun cdv A outer s H vs Q E hr h => ?_)
  · obtain ⟨m, a, b, ua, ub, A, B, rfl, _⟩ := h
    rfl
  · obtain ⟨m, a, b, ua, ub, A, B, rfl, ha, ta, hb, tb, la, lb, hm, q⟩ := h
    refine ⟨_, pss_cons (ps_set (i := 3) scAOn.nd rfl (.inl rfl) (pe_lst pa_nil))
      (pss_cons (ps_for PassesOwn.never rfl (pi_list (pv 1)) (pg_tup rfl (pgs_cons (pg_name (i := 4) scAOn.nd rfl (.inl rfl)) (pgs_cons (pg_name (i := 5) scAOn.nd rfl (.inl rfl)) pgs_nil)))
        (pss_one (ps_for PassesOwn.never rfl (pi_list (pv 2)) (pg_tup rfl (pgs_cons (pg_name (i := 6) scAOn.nd rfl (.inl rfl)) (pgs_cons (pg_name (i := 7) scAOn.nd rfl (.inl rfl)) pgs_nil)))
          (pss_one (ps_expr (pe_bm PySem.F.plainAttrs_list PySem.F.slot_list_append PySem.F.type_list_append mt_append (pv 3)
            (pa_cons (pe_tup (pa_cons (pe_op op_add (pe_op op_mul (pv 4) (pv 0)) (pv 6)) (pa_cons (pe_op op_add (pe_op op_mul (pv 5) (pv 0)) (pv 7)) pa_nil))) pa_nil)))))))
      (pss_one (ps_ret (pe_callB cr_sortedPO (by rfl) ms' (by decide +kernel) (pa_cons (pv 3) pa_nil))))), ?_⟩
    -- arrows = []
    refine ⟨Nat.zero_le _, fun o no => ?_⟩
    have s0 : Same H (upd H o (.lst [])) := same_upd no
    -- for u, u_end in one
    refine ⟨.ref a, rfl, a, rfl, ⟨_, SqL.of (s0 _ _ ha)⟩, for_list (K := K) (a := a) (xs := ua) (fun i σ H4 => ∃ y4 y5 y6 y7, σ = [some (.int m), some (.ref a), some (.ref b), some (.ref o), y4, y5, y6, y7] ∧ Same H H4 ∧ ∃ ws, H4 o = some (.lst ws) ∧ TPs H4 ws (prod m (A.take i) B))
      ⟨none, none, none, none, rfl, s0, [], upd_same, by rw [List.take_zero]; exact .nil⟩ (fun i σ H4 _ h4 => by
        obtain ⟨_, _, _, _, _, s4, _⟩ := h4
        exact SqL.of (s4 _ _ ha)) ?_ ?_⟩
    · rintro i x σ H4 hx ⟨y4, y5, y6, y7, rfl, s4, ws, e4, t4⟩
      obtain ⟨t, pr, rfl, hp, kt⟩ := ta.at hx
      refine ⟨t, [.int pr.1, .int pr.2], rfl, SqT.of (s4 _ _ kt), rfl, .int pr.1, [.int pr.2], rfl, .int pr.2, [], rfl, rfl, ?_⟩
      -- for v, v_end in other
      refine ⟨.ref b, rfl, b, rfl, ⟨_, SqL.of (s4 _ _ hb)⟩, for_list (K := K) (a := b) (xs := ub) (fun j σ H6 => ∃ y6 y7, σ = [some (.int m), some (.ref a), some (.ref b), some (.ref o), some (.int pr.1), some (.int pr.2), y6, y7] ∧ Same H H6 ∧ ∃ ws, H6 o = some (.lst ws) ∧ TPs H6 ws (prod m (A.take i) B ++ (B.take j).map (pairUp m pr)))
        ⟨y6, y7, rfl, s4, ws, e4, by
          rw [List.take_zero, List.map_nil, List.append_nil]
          exact t4⟩ (fun j σ H6 _ h6 => by
          obtain ⟨_, _, _, s6, _⟩ := h6
          exact SqL.of (s6 _ _ hb)) ?_ ?_⟩
      · rintro j x σ H6 hx6 ⟨z6, z7, rfl, s6, ws6, e6, t6⟩
        obtain ⟨t', qr, rfl, hq, kt'⟩ := tb.at hx6
        refine ⟨t', [.int qr.1, .int qr.2], rfl, SqT.of (s6 _ _ kt'), rfl, .int qr.1, [.int qr.2], rfl, .int qr.2, [], rfl, rfl, ?_⟩
        refine ⟨.ref o, rfl, .inl ⟨rfl, _, SqL.of e6⟩, .int pr.1, rfl, .int m, rfl, pr.1, m, rfl, rfl, .inr ⟨by omega, by omega⟩, .int qr.1, rfl, pr.1 * m, qr.1, rfl, rfl,
          .int pr.2, rfl, .int m, rfl, pr.2, m, rfl, rfl, .inr ⟨by omega, by omega⟩, .int qr.2, rfl, pr.2 * m, qr.2, rfl, rfl, (by show 2 ≤ sizeLine; decide), fun T nT => ?_⟩
        have eT : (upd H6 T (.tup [.int (pr.1 * m + qr.1), .int (pr.2 * m + qr.2)])) o = some (.lst ws6) := by
          rw [upd_ne (ne_of_none e6 nT)]
          exact e6
        refine ⟨o, ws6, .ref T, rfl, rfl, eT, ?_, some (.int qr.1), some (.int qr.2), rfl, same_at (s6.trans (same_upd nT)) no, _, upd_same, ?_⟩
        · have f1 := prod_few m (A := A.take i) (B := B) (by rw [List.length_take]; omega) lb
          rw [t6.len, List.length_append, List.length_map, List.length_take]
          exact small_n (by omega)
        · rw [take_more hq, List.map_append, ← List.append_assoc]
          refine ((t6.mono (KT.new nT)).mono (KT.lst eT)).app (TPs.one (p := pairUp m pr qr) ?_)
          exact KT.lst eT _ _ upd_same
      · rintro σ H6 ⟨z6, z7, rfl, s6, ws6, e6, t6⟩
        rw [tb.len, List.take_length, ← prod_more hp] at t6
        exact ⟨_, _, _, _, rfl, s6, ws6, e6, t6⟩
    · rintro σ H4 ⟨y4, y5, y6, y7, rfl, s4, ws, e4, t4⟩
      rw [ta.len, List.take_length] at t4
      -- sorted(arrows)
      refine ⟨.ref o, rfl, o, ws, kOf H4, rfl, SqL.of e4, t4.mem, fun ys p9 hs hb np9 => ?_⟩
      have ty : TPs H4 ys (ys.map (kOf H4)) := TPs.of_mem ys fun x hx => t4.mem x (hb.perm.mem_iff.mp hx)
      have pm : (ys.map (kOf H4)).Perm (prod m A B) := by
        have := hb.perm.map (kOf H4)
        rw [t4.map] at this
        exact this
      exact q _ p9 ys _ (s4.trans (same_upd np9)) upd_same (ty.mono (KT.new np9)) pm (List.pairwise_map.mpr hs)
end
end Gt
namespace Gt
open PySem PySem.Spec PyProof.Rows L2
theorem scCbo : FnScope ["n", "m", "o", "first", "second", "third", "one", "other", "arrows"] ["n", "m", "o", "first", "second", "third"] (defScope sCbo) := ⟨rfl, rfl, rfl, by decide +kernel, rfl, by decide +kernel, by decide +kernel⟩
def spCbo (K : PySem.W.Frag) : Sp := fun vs H Q _ => ∃ (n m o : Int) (a b c : Addr) (ns ms os : List Int), vs = [.int n, .int m, .int o, .ref a, .ref b, .ref c] ∧ SqL K H a (ns.map V.int) ∧ SqL K H b (ms.map V.int) ∧ SqL K H c (os.map V.int) ∧
  ns.length ≤ 60 ∧ ms.length ≤ 60 ∧ os.length ≤ 60 ∧ (∀ x ∈ ns, 0 ≤ x) ∧ (∀ x ∈ ms, 0 ≤ x) ∧ (∀ x ∈ os, 0 ≤ x) ∧
  ∀ (H' : Hp) (p : Addr), H' p = some (.lst ((cboM n m o ns ms os).map V.int)) → Q (.ref p) H'
section
variable {P : Program} {w : World} {K : PySem.W.Frag} {mg : Str → Option Value} {base : Heap}
theorem ok_cbo {f fG fR fA fE fL fM fO : Addr} {fd fdG fdR fdA fdE fdL fdM fdO : FuncData} {t0 t1 t2 t3 : Tok} (F : Fun K "countboth" "countboth" sCbo f fd)
    (FG : Fun K "is_graph" "is_graph" sIsG fG fdG) (bG : Binds K fdG ["places", "told"] []) (gG : mg "is_graph" = some (.ref fG))
    (FR : Fun K "is_rising" "is_rising" sRis fR fdR) (bR : Binds K fdR ["arrows"] []) (gR : mg "is_rising" = some (.ref fR))
    (FA : Fun K "arrows_of" "arrows_of" sArr fA fdA) (bA : Binds K fdA ["told"] []) (gA : mg "arrows_of" = some (.ref fA))
    (FE : Fun K "all_ways" "all_ways" sAll fE fdE) (bE : Binds K fdE ["n", "m"] []) (gE : mg "all_ways" = some (.ref fE))
    (FL : Fun K "leads" "leads" sLea fL fdL) (bL : Binds K fdL ["one", "other", "arrows", "targets"] []) (gL : mg "leads" = some (.ref fL))
    (FM : Fun K "count_maps" "count_maps" sCmp fM fdM) (bM : Binds K fdM ["places", "arrows", "target_places", "targets"] []) (gM : mg "count_maps" = some (.ref fM))
    (FO : Fun K "arrows_at_once" "arrows_at_once" sAOn fO fdO) (bO : Binds K fdO ["m", "one", "other"] []) (gO : mg "arrows_at_once" = some (.ref fO))
    (gP : mg "MOST_PLACES" = some (.int (5) t0))
    (gN : mg "NO_GRAPH" = some (.int (-22) t1))
    (g3 : mg "MOST_COUNTED_PLACES" = some (.int (3) t2))
    (gT : mg "TOO_MANY" = some (.int (-75) t3))
    (mr : mg "range" = none) (ml : mg "len" = none) (ma : mg "all" = none) (ms' : mg "sorted" = none) :
    FnOk P w K mg base CX0 3 f fd ["n", "m", "o", "first", "second", "third"] (spCbo K) := by
  have GG : FnOk P w K mg base CX0 2 fG fdG ["places", "told"] (spIsG K) := ok_isg (k := 0) FG FA bA gA FR bR gR gP mr ml ma
  have GA : FnOk P w K mg base CX0 2 fA fdA ["told"] (spArr K) := ok_arr FA mr ml
  have GE : FnOk P w K mg base CX0 2 fE fdE ["n", "m"] spAll := ok_all FE mr
  have GM : FnOk P w K mg base CX0 2 fM fdM ["places", "arrows", "target_places", "targets"] spCmp := ok_cmp (k := 0) FM FE bE gE FL bL gL mr ml
  have GO : FnOk P w K mg base CX0 2 fO fdO ["m", "one", "other"] spAOn := ok_aon FO ms'
  refine F.ok scCbo (fun vs H Q E h => ?_) (fun cdv A outer s H vs Q E hr h => ?_)
  · obtain ⟨n, m, o, a, b, c, ns, ms, os, rfl, _⟩ := h
    rfl
  · obtain ⟨n, m, o, a, b, c, ns, ms, os, rfl, hA, hB, hC, la, lb, lc, pn, pm, po, q⟩ := h
    refine ⟨_, pss_cons (ps_if (pt_not (pw_and (pt_val (pe_call GG hr (by rfl) gG FG.kp bG .nil pass0 (pa_cons (pv 0) (pa_cons (pv 3) pa_nil)))) (pw_and (pt_val (pe_call GG hr (by rfl) gG FG.kp bG .nil pass0 (pa_cons (pv 1) (pa_cons (pv 4) pa_nil)))) (pw_and1 (pt_val (pe_call GG hr (by rfl) gG FG.kp bG .nil pass0 (pa_cons (pv 2) (pa_cons (pv 5) pa_nil))))))).pt)
        (pss_one (ps_ret (pe_lst (pa_cons (pe_glob (v := .int (-22)) (by rfl) gN ⟨_, rfl⟩) pa_nil)))) pss_nil)
      (pss_cons (ps_if (pw_or (pt_cmpR op_gt (pv 0) (pe_glob (v := .int 3) (by rfl) g3 ⟨_, rfl⟩) (nomark _)) (pw_or (pt_cmpR op_gt (pv 1) (pe_glob (v := .int 3) (by rfl) g3 ⟨_, rfl⟩) (nomark _)) (pw_or1 (pt_cmpR op_gt (pv 2) (pe_glob (v := .int 3) (by rfl) g3 ⟨_, rfl⟩) (nomark _))))).pt
        (pss_one (ps_ret (pe_lst (pa_cons (pe_glob (v := .int (-75)) (by rfl) gT ⟨_, rfl⟩) pa_nil)))) pss_nil)
      (pss_cons (ps_set (i := 6) scCbo.nd rfl (.inl rfl) (pe_call GA hr (by rfl) gA FA.kp bA .nil pass0 (pa_cons (pv 3) pa_nil)))
      (pss_cons (ps_set (i := 7) scCbo.nd rfl (.inl rfl) (pe_call GA hr (by rfl) gA FA.kp bA .nil pass0 (pa_cons (pv 4) pa_nil)))
      (pss_cons (ps_set (i := 8) scCbo.nd rfl (.inl rfl) (pe_call GA hr (by rfl) gA FA.kp bA .nil pass0 (pa_cons (pv 5) pa_nil)))
      (pss_one (ps_ret (pe_lst (pa_cons (pe_call GM hr (by rfl) gM FM.kp bM .nil pass0 (pa_cons (pv 2) (pa_cons (pv 8) (pa_cons (pe_op op_mul (pv 0) (pv 1)) (pa_cons (pe_call GO hr (by rfl) gO FO.kp bO .nil pass0 (pa_cons (pv 1) (pa_cons (pv 6) (pa_cons (pv 7) pa_nil)))) pa_nil))))) (pa_cons (pe_call GM hr (by rfl) gM FM.kp bM .nil pass0 (pa_cons (pv 2) (pa_cons (pv 8) (pa_cons (pv 0) (pa_cons (pv 6) pa_nil))))) (pa_cons (pe_call GM hr (by rfl) gM FM.kp bM .nil pass0 (pa_cons (pv 2) (pa_cons (pv 8) (pa_cons (pv 1) (pa_cons (pv 7) pa_nil))))) pa_nil)))))))))), ?_⟩
    have no : (isG n ns && (isG m ms && isG o os)) = false → ∀ (H1 : Hp), ∀ p, H1 p = none → Q (.ref p) (upd H1 p (.lst [.int (-22)])) := fun e H1 p _ => by
      refine q _ p ?_
      rw [upd_same]
      unfold cboM
      rw [if_neg (by rw [e]; decide)]
      rfl
    refine ⟨.int n, rfl, .ref a, rfl, n, a, ns, rfl, hA, by omega, fun H1 s1 => ⟨_, rfl, ite2 (fun c1 => ?_) (fun c1 => iteT ⟨(by show 1 ≤ sizeLine; decide), no (by rw [Bool.eq_false_iff.mpr c1, Bool.false_and]) H1⟩)⟩⟩
    refine ⟨.int m, rfl, .ref b, rfl, m, b, ms, rfl, s1.seq hB, by omega, fun H2 s2 => ⟨_, rfl, ite2 (fun c2 => ?_) (fun c2 => iteT ⟨(by show 1 ≤ sizeLine; decide), no (by rw [Bool.eq_false_iff.mpr c2, Bool.false_and, Bool.and_false]) H2⟩)⟩⟩
    refine ⟨.int o, rfl, .ref c, rfl, o, c, os, rfl, (s1.trans s2).seq hC, by omega, fun H3 s3 => ⟨_, rfl, ite2 (fun c3 => ⟨(by show 1 ≤ sizeLine; decide), no (by rw [nt1 c3, Bool.and_false, Bool.and_false]) H3⟩) (fun c3 => ?_)⟩⟩
    have c3 : isG o os = true := nt2 c3
    have gd : (isG n ns && (isG m ms && isG o os)) = true := by rw [c1, c2, c3]; rfl
    have n5 := (isG_iff.mp c1).1
    have m5 := (isG_iff.mp c2).1
    have o5 := (isG_iff.mp c3).1
    have evA := (isG_iff.mp c1).2.1
    have evB := (isG_iff.mp c2).2.1
    have evC := (isG_iff.mp c3).2.1
    have rA := rng_of c1 pn
    have rB := rng_of c2 pm
    have rC := rng_of c3 po
    have s13 := (s1.trans s2).trans s3
    have la : (prs ns).length ≤ 30 := by rw [prs_len]; omega
    have lb : (prs ms).length ≤ 30 := by rw [prs_len]; omega
    have lc : (prs os).length ≤ 30 := by rw [prs_len]; omega
    have many : (3 < n ∨ 3 < m ∨ 3 < o) → ∀ (H1 : Hp), ∀ p, H1 p = none → Q (.ref p) (upd H1 p (.lst [.int (-75)])) := fun e H1 p _ => by
      refine q _ p ?_
      rw [upd_same]
      unfold cboM
      rw [if_pos gd, if_pos e]
      rfl
    refine ⟨.int n, rfl, n, 3, rfl, rfl, _, rfl, ite2 (fun d0 => iteT ⟨(by show 1 ≤ sizeLine; decide), many (by have := of_decide_eq_true d0; omega) H3⟩) (fun d0 => ?_)⟩
    refine ⟨.int m, rfl, m, 3, rfl, rfl, _, rfl, ite2 (fun d1 => iteT ⟨(by show 1 ≤ sizeLine; decide), many (by have := of_decide_eq_true d1; omega) H3⟩) (fun d1 => ?_)⟩
    refine ⟨.int o, rfl, o, 3, rfl, rfl, _, rfl, ite2 (fun d2 => ⟨(by show 1 ≤ sizeLine; decide), many (by have := of_decide_eq_true d2; omega) H3⟩) (fun d2 => ?_)⟩
    simp only [decide_eq_true_eq] at d0 d1 d2
    refine ⟨.ref a, rfl, a, ns, rfl, s13.seq hA, by omega, evA, fun H4 p4 us4 s4 _ e4 t4 => ?_⟩
    refine ⟨.ref b, rfl, b, ms, rfl, (s13.trans s4).seq hB, by omega, evB, fun H5 p5 us5 s5 _ e5 t5 => ?_⟩
    refine ⟨.ref c, rfl, c, os, rfl, (s13.trans (s4.trans s5)).seq hC, by omega, evC, fun H6 p6 us6 s6 _ e6 t6 => ?_⟩
    have x4 : H6 p4 = some (.lst us4) := s6 _ _ (s5 _ _ e4)
    have y4 : TPs H6 us4 (prs ns) := t4.mono (KT.of (s5.trans s6))
    have x5 : H6 p5 = some (.lst us5) := s6 _ _ e5
    have y5 : TPs H6 us5 (prs ms) := t5.mono (KT.of s6)
    -- count_maps(o, arrows, n * m, arrows_at_once(m, one, other))
    have nm := mul_low (a := n) (b := m) (A := 3) (B := 3) (by omega) (by omega)
    refine ⟨.int o, rfl, .ref p6, rfl, .int n, rfl, .int m, rfl, n, m, rfl, rfl, .inr ⟨by omega, by omega⟩, ?_⟩
    refine ⟨.int m, rfl, .ref p4, rfl, .ref p5, rfl, m, p4, p5, us4, us5, prs ns, prs ms, rfl, x4, y4, x5, y5, la, lb, m5, fun H7 p7 us7 ys s7 e7 t7 pe _ => ?_⟩
    have w1 : (n * m).toNat ^ o.toNat ≤ 20000 := Nat.le_trans (powB (M := 9) (N := 3) (by omega) (by decide) (by omega)) (by decide)
    have w2 : n.toNat ^ o.toNat ≤ 20000 := Nat.le_trans (powB (M := 9) (N := 3) (by omega) (by decide) (by omega)) (by decide)
    have w3 : m.toNat ^ o.toNat ≤ 20000 := Nat.le_trans (powB (M := 9) (N := 3) (by omega) (by decide) (by omega)) (by decide)
    refine ⟨o, n * m, p6, p7, us6, us7, prs os, ys, rfl, s7 _ _ e6, t6.mono (KT.of s7), e7, t7, by omega, by omega, by omega, w1, rC, fun H8 s8 => ?_⟩
    have s68 := s7.trans s8
    -- count_maps(o, arrows, n, one)
    refine ⟨.int o, rfl, .ref p6, rfl, .int n, rfl, .ref p4, rfl, o, n, p6, p4, us6, us4, prs os, prs ns, rfl, s68 _ _ e6, t6.mono (KT.of s68), s68 _ _ x4, y4.mono (KT.of s68), by omega, by omega, by omega, w2, rC, fun H9 s9 => ?_⟩
    have s69 := s68.trans s9
    -- count_maps(o, arrows, m, other)
    refine ⟨.int o, rfl, .ref p6, rfl, .int m, rfl, .ref p5, rfl, o, m, p6, p5, us6, us5, prs os, prs ms, rfl, s69 _ _ e6, t6.mono (KT.of s69), s69 _ _ x5, y5.mono (KT.of s69), by omega, by omega, by omega, w3, rC, fun H10 s10 => ?_⟩
    refine ⟨(by show 3 ≤ sizeLine; decide), fun p np => q _ p ?_⟩
    rw [upd_same]
    unfold cboM
    rw [if_pos gd, if_neg (by omega), ← cnt_congr (fun _ => Iff.rfl) (fun x => pe.mem_iff (a := x))]
    rfl
end
theorem all_mk {P : Program} {w : World} {K : PySem.W.Frag} {h : Heap} {mg : Str → Option Value} {fa f1 f2 f3 f4 f5 f6 f7 f8 : Addr} {t0 t1 t2 t3 : Tok} (X : K.In h) (G : h.Ns mainGlobals mg) (hfa : mg "countboth" = some (.ref fa))
    {od1 an1 od2 an2 od3 an3 od4 an4 od5 an5 od6 an6 od7 an7 od8 an8 : Option Addr} {sl1 sl2 sl3 sl4 sl5 sl6 sl7 sl8 : Array (Option Value)} {oc1 kV1 dc1 pm1 cd1 ct1 oc2 kV2 dc2 pm2 cd2 ct2 oc3 kV3 dc3 pm3 cd3 ct3 oc4 kV4 dc4 pm4 cd4 ct4 oc5 kV5 dc5 pm5 cd5 ct5 oc6 kV6 dc6 pm6 cd6 ct6 oc7 kV7 dc7 pm7 cd7 ct7 oc8 kV8 dc8 pm8 cd8 ct8 : Value}
    (a1 : PySem.W.nsIn K mainGlobals "countboth" = some (some (.ref f1))) (l1 : K.lookup f1 = some ⟨oc1, od1, .func (PySem.W.fnOf "countboth" "countboth" (defArgs sCbo) (defBody sCbo) (defScope sCbo) .none kV1 dc1 pm1 an1 cd1 ct1), sl1⟩) (c1 : PySem.W.codeIn K cd1 "countboth" = true) (k1 : PySem.W.keepIn K (.ref f1) = true)
    (a2 : PySem.W.nsIn K mainGlobals "is_graph" = some (some (.ref f2))) (l2 : K.lookup f2 = some ⟨oc2, od2, .func (PySem.W.fnOf "is_graph" "is_graph" (defArgs sIsG) (defBody sIsG) (defScope sIsG) .none kV2 dc2 pm2 an2 cd2 ct2), sl2⟩) (c2 : PySem.W.codeIn K cd2 "is_graph" = true) (k2 : PySem.W.keepIn K (.ref f2) = true)
    (a3 : PySem.W.nsIn K mainGlobals "is_rising" = some (some (.ref f3))) (l3 : K.lookup f3 = some ⟨oc3, od3, .func (PySem.W.fnOf "is_rising" "is_rising" (defArgs sRis) (defBody sRis) (defScope sRis) .none kV3 dc3 pm3 an3 cd3 ct3), sl3⟩) (c3 : PySem.W.codeIn K cd3 "is_rising" = true) (k3 : PySem.W.keepIn K (.ref f3) = true)
    (a4 : PySem.W.nsIn K mainGlobals "arrows_of" = some (some (.ref f4))) (l4 : K.lookup f4 = some ⟨oc4, od4, .func (PySem.W.fnOf "arrows_of" "arrows_of" (defArgs sArr) (defBody sArr) (defScope sArr) .none kV4 dc4 pm4 an4 cd4 ct4), sl4⟩) (c4 : PySem.W.codeIn K cd4 "arrows_of" = true) (k4 : PySem.W.keepIn K (.ref f4) = true)
    (a5 : PySem.W.nsIn K mainGlobals "all_ways" = some (some (.ref f5))) (l5 : K.lookup f5 = some ⟨oc5, od5, .func (PySem.W.fnOf "all_ways" "all_ways" (defArgs sAll) (defBody sAll) (defScope sAll) .none kV5 dc5 pm5 an5 cd5 ct5), sl5⟩) (c5 : PySem.W.codeIn K cd5 "all_ways" = true) (k5 : PySem.W.keepIn K (.ref f5) = true)
    (a6 : PySem.W.nsIn K mainGlobals "leads" = some (some (.ref f6))) (l6 : K.lookup f6 = some ⟨oc6, od6, .func (PySem.W.fnOf "leads" "leads" (defArgs sLea) (defBody sLea) (defScope sLea) .none kV6 dc6 pm6 an6 cd6 ct6), sl6⟩) (c6 : PySem.W.codeIn K cd6 "leads" = true) (k6 : PySem.W.keepIn K (.ref f6) = true)
    (a7 : PySem.W.nsIn K mainGlobals "count_maps" = some (some (.ref f7))) (l7 : K.lookup f7 = some ⟨oc7, od7, .func (PySem.W.fnOf "count_maps" "count_maps" (defArgs sCmp) (defBody sCmp) (defScope sCmp) .none kV7 dc7 pm7 an7 cd7 ct7), sl7⟩) (c7 : PySem.W.codeIn K cd7 "count_maps" = true) (k7 : PySem.W.keepIn K (.ref f7) = true)
    (a8 : PySem.W.nsIn K mainGlobals "arrows_at_once" = some (some (.ref f8))) (l8 : K.lookup f8 = some ⟨oc8, od8, .func (PySem.W.fnOf "arrows_at_once" "arrows_at_once" (defArgs sAOn) (defBody sAOn) (defScope sAOn) .none kV8 dc8 pm8 an8 cd8 ct8), sl8⟩) (c8 : PySem.W.codeIn K cd8 "arrows_at_once" = true) (k8 : PySem.W.keepIn K (.ref f8) = true)
    (gq0 : PySem.W.nsIn K mainGlobals "MOST_PLACES" = some (some (.int (5) t0)))
    (gq1 : PySem.W.nsIn K mainGlobals "NO_GRAPH" = some (some (.int (-22) t1)))
    (gq2 : PySem.W.nsIn K mainGlobals "MOST_COUNTED_PLACES" = some (some (.int (3) t2)))
    (gq3 : PySem.W.nsIn K mainGlobals "TOO_MANY" = some (some (.int (-75) t3)))
    (zq0 : PySem.W.nsIn K mainGlobals "range" = some none)
    (zq1 : PySem.W.nsIn K mainGlobals "len" = some none)
    (zq2 : PySem.W.nsIn K mainGlobals "all" = some none)
    (zq3 : PySem.W.nsIn K mainGlobals "sorted" = some none) :
    ∃ fd : FuncData, (∀ (s : Shared) (us : List Value), us.length = (["n", "m", "o", "first", "second", "third"] : List Str).length → BindsTo s fd ⟨us, []⟩ ((["n", "m", "o", "first", "second", "third"] : List Str).zip us)) ∧ ∀ base : Heap, K.In base → base.Ns mainGlobals mg → FnOk P w K mg base CX0 3 fa fd ["n", "m", "o", "first", "second", "third"] (spCbo K) := by
  have e := hfa.symm.trans (PySem.W.mg_of X G a1)
  cases e
  have F1 := fun_mk (st := sCbo) l1 c1 k1
  have F2 := fun_mk (st := sIsG) l2 c2 k2
  have F3 := fun_mk (st := sRis) l3 c3 k3
  have F4 := fun_mk (st := sArr) l4 c4 k4
  have F5 := fun_mk (st := sAll) l5 c5 k5
  have F6 := fun_mk (st := sLea) l6 c6 k6
  have F7 := fun_mk (st := sCmp) l7 c7 k7
  have F8 := fun_mk (st := sAOn) l8 c8 k8
  have b2 := F2.binds (ps := ["places", "told"]) fun _ _ _ _ _ _ us hl => match us, hl with | [_, _], _ => rfl
  have b3 := F3.binds (ps := ["arrows"]) fun _ _ _ _ _ _ us hl => match us, hl with | [_], _ => rfl
  have b4 := F4.binds (ps := ["told"]) fun _ _ _ _ _ _ us hl => match us, hl with | [_], _ => rfl
  have b5 := F5.binds (ps := ["n", "m"]) fun _ _ _ _ _ _ us hl => match us, hl with | [_, _], _ => rfl
  have b6 := F6.binds (ps := ["one", "other", "arrows", "targets"]) fun _ _ _ _ _ _ us hl => match us, hl with | [_, _, _, _], _ => rfl
  have b7 := F7.binds (ps := ["places", "arrows", "target_places", "targets"]) fun _ _ _ _ _ _ us hl => match us, hl with | [_, _, _, _], _ => rfl
  have b8 := F8.binds (ps := ["m", "one", "other"]) fun _ _ _ _ _ _ us hl => match us, hl with | [_, _, _], _ => rfl
  exact ⟨_, fun s us hu => match us, hu with | [_, _, _, _, _, _], _ => .of_eq rfl, fun base _ _ => ok_cbo F1 F2 b2 (PySem.W.mg_of X G a2) F3 b3 (PySem.W.mg_of X G a3) F4 b4 (PySem.W.mg_of X G a4) F5 b5 (PySem.W.mg_of X G a5) F6 b6 (PySem.W.mg_of X G a6) F7 b7 (PySem.W.mg_of X G a7) F8 b8 (PySem.W.mg_of X G a8)
    (PySem.W.mg_of X G gq0) (PySem.W.mg_of X G gq1) (PySem.W.mg_of X G gq2) (PySem.W.mg_of X G gq3) (PySem.W.mg_none_of X G zq0) (PySem.W.mg_none_of X G zq1) (PySem.W.mg_none_of X G zq2) (PySem.W.mg_none_of X G zq3)⟩
end Gt
open PySem PySem.W PyProof.Rows
set_option maxRecDepth 100000 in
set_option maxHeartbeats 8000000 in
theorem PySem.Challenge.cw_graphstogether_s06_countboth_holds : PySem.Challenge.rw_graphstogether_s06_countboth.Holds := by
  w_on; k_headS; (case hw => exact ⟨[.int 0, .int 0, .int 0, .list [], .list [], .list []], by decide +kernel, by decide +kernel⟩)
  k_fillS
  refine L2.walk_specK (r := PySem.Challenge.rw_graphstogether_s06_countboth) (k := 3) (CX := L2.CX0) (ps := ["n", "m", "o", "first", "second", "third"]) (sp := Gt.spCbo) (by decide +kernel) rfl rfl ⟨rfl, by decide, by decide⟩ (fun w h Y => PySem.W.kIn_of Y) ?F ?S (fun _ _ _ _ z => z)
  case F =>
    intro w mg fa h Y KX G hmg
    refine' Gt.all_mk KX G hmg ?a1 ?l1 ?c1 ?k1 ?a2 ?l2 ?c2 ?k2 ?a3 ?l3 ?c3 ?k3 ?a4 ?l4 ?c4 ?k4 ?a5 ?l5 ?c5 ?k5 ?a6 ?l6 ?c6 ?k6 ?a7 ?l7 ?c7 ?k7 ?a8 ?l8 ?c8 ?k8 ?gq0 ?gq1 ?gq2 ?gq3 ?zq0 ?zq1 ?zq2 ?zq3
    (case a1 => k_is); (case l1 => k_is); (case c1 => k_is); (case k1 => k_is)
    (case a2 => k_is); (case l2 => k_is); (case c2 => k_is); (case k2 => k_is)
    (case a3 => k_is); (case l3 => k_is); (case c3 => k_is); (case k3 => k_is)
    (case a4 => k_is); (case l4 => k_is); (case c4 => k_is); (case k4 => k_is)
    (case a5 => k_is); (case l5 => k_is); (case c5 => k_is); (case k5 => k_is)
    (case a6 => k_is); (case l6 => k_is); (case c6 => k_is); (case k6 => k_is)
    (case a7 => k_is); (case l7 => k_is); (case c7 => k_is); (case k7 => k_is)
    (case a8 => k_is); (case l8 => k_is); (case c8 => k_is); (case k8 => k_is)
    (case gq0 => k_is); (case gq1 => k_is); (case gq2 => k_is); (case gq3 => k_is)
    (case zq0 => k_is); (case zq1 => k_is); (case zq2 => k_is); (case zq3 => k_is)
  case S =>
    intro K H xs a hO hwi hask hx
    obtain ⟨n, m, o, ns, ms, os, u⟩ := a
    have q : (Codec.inInt 0 4294967295 n && (Codec.inInt 0 4294967295 m && (Codec.inInt 0 4294967295 o && ((Codec.inLen 0 60 ns && ns.all (Codec.inInt 0 4294967295)) && ((Codec.inLen 0 60 ms && ms.all (Codec.inInt 0 4294967295)) && ((Codec.inLen 0 60 os && os.all (Codec.inInt 0 4294967295)) && true)))))) = true := hwi
    simp only [Bool.and_eq_true, List.all_eq_true, Codec.inInt_iff] at q
    obtain ⟨q1, q2, q3, ⟨q4, q5⟩, ⟨q6, q7⟩, ⟨q8, q9⟩, _⟩ := q
    cases hx with | cons h1 hx =>
    cases hx with | cons h2 hx =>
    cases hx with | cons h3 hx =>
    cases hx with | cons h4 hx =>
    cases hx with | cons h5 hx =>
    cases hx with | cons h6 hx =>
    cases hx
    cases h1 with | int =>
    cases h2 with | int =>
    cases h3 with | int =>
    cases h4 with | lst hs4 ha4 =>
    cases h5 with | lst hs5 ha5 =>
    cases h6 with | lst hs6 ha6 =>
    have e4 := L2.ints_dw ns _ ha4
    have e5 := L2.ints_dw ms _ ha5
    have e6 := L2.ints_dw os _ ha6
    subst e4 e5 e6
    have p4 : ∀ x ∈ ns, 0 ≤ x := fun x hx => (q5 x hx).1
    have p5 : ∀ x ∈ ms, 0 ≤ x := fun x hx => (q7 x hx).1
    have p6 : ∀ x ∈ os, 0 ≤ x := fun x hx => (q9 x hx).1
    refine ⟨n, m, o, _, _, _, ns, ms, os, rfl, hs4, hs5, hs6, (Codec.inNat_iff.mp q4).2, (Codec.inNat_iff.mp q6).2, (Codec.inNat_iff.mp q8).2, p4, p5, p6, fun H' p hp => ?_⟩
    show L2.Dw K H' (.ref p) (.list ((PyKs549.countboth n m o ns ms os).map WData.int))
    rw [Gt.cbo_eq q1.1 q2.1 q3.1 p4 p5 p6]
    exact .lst (L2.SqL.of hp) (L2.dw_ints _)
#print axioms PySem.Challenge.cw_graphstogether_s06_countboth_holds
