import PyProof.Rows.All
import Wide.All
import OpenK.AllK
import Wide.FinOn
import PyProof.EqAt
import PyProof.EqKinds
import PyProof.TupleCall
import Open.SpecLaws
import KE.OsGo
import HandS.ForSpec
import HandS.Comp
import HandS.Iter
import HandS.Walk
import HandS.SortRule
import PySem.Challenge.RW_graphstogether_s04_turned
set_option Elab.async false
set_option maxRecDepth 100000
set_option maxHeartbeats 2000000
namespace Gt
/-! ### plain functions of the program -/
def prs : List Int → List (Int × Int)
  | u :: v :: l => (u, v) :: prs l
  | _ => []
def ltB (p q : Int × Int) : Bool := if p.1 = q.1 then decide (p.2 < q.2) else decide (p.1 < q.1)
def rise : List (Int × Int) → Bool
  | p :: q :: r => ltB p q && rise (q :: r)
  | _ => true
def isG (n : Int) (l : List Int) : Bool :=
  if n < 1 ∨ 5 < n ∨ l.length % 2 ≠ 0 then false else (l.all fun x => decide (x < n)) && rise (prs l)
def flat (ps : List (Int × Int)) : List Int := ps.flatMap fun p => [p.1, p.2]
def told (n : Int) (ps : List (Int × Int)) : List Int := n :: (ps.length : Int) :: flat ps
def shift (n : Int) (p : Int × Int) : Int × Int := (n + p.1, n + p.2)
def besideM (n m : Int) (f s : List Int) : List Int :=
  if (isG n f && isG m s) = true then told (n + m) (prs f ++ (prs s).map (shift n)) else [-22]
def tn (p : Int × Int) : Nat × Nat := (p.1.toNat, p.2.toNat)
def ti (p : Nat × Nat) : Int × Int := ((p.1 : Int), (p.2 : Int))

theorem ltB_iff {p q : Int × Int} : ltB p q = true ↔ p.1 < q.1 ∨ (p.1 = q.1 ∧ p.2 < q.2) := by
  unfold ltB
  split <;> simp <;> omega
theorem prs_nn : ∀ (l : List Int), (∀ x ∈ l, 0 ≤ x) → ∀ p ∈ prs l, 0 ≤ p.1 ∧ 0 ≤ p.2
  | [], _, p, h => by simp [prs] at h
  | [_], _, p, h => by simp [prs] at h
  | u :: v :: l, hl, p, h => by
    simp only [prs, List.mem_cons] at h
    rcases h with rfl | h
    · exact ⟨hl u (by simp), hl v (by simp)⟩
    · exact prs_nn l (fun x hx => hl x (by simp [hx])) p h
theorem prs_lt {n : Int} : ∀ (l : List Int), (∀ x ∈ l, x < n) → ∀ p ∈ prs l, p.1 < n ∧ p.2 < n
  | [], _, p, h => by simp [prs] at h
  | [_], _, p, h => by simp [prs] at h
  | u :: v :: l, hl, p, h => by
    simp only [prs, List.mem_cons] at h
    rcases h with rfl | h
    · exact ⟨hl u (by simp), hl v (by simp)⟩
    · exact prs_lt l (fun x hx => hl x (by simp [hx])) p h
theorem prs_len : ∀ (l : List Int), (prs l).length = l.length / 2
  | [] => rfl
  | [_] => by simp [prs]
  | u :: v :: l => by
    simp only [prs, List.length_cons, prs_len l]
    omega
theorem tn_lt {n u : Int} (hn : 0 ≤ n) (hu : 0 ≤ u) : n.toNat ≤ u.toNat ↔ n ≤ u := by omega

theorem pairsOf_eq {n : Int} (hn : 0 ≤ n) : ∀ (l : List Int), (∀ x ∈ l, 0 ≤ x) →
    Ks547.pairsOf n.toNat (l.map Int.toNat) = if (l.length % 2 = 0 ∧ (∀ x ∈ l, x < n) ∧ rise (prs l) = true) then some ((prs l).map tn) else none
  | [], _ => by simp [Ks547.pairsOf, prs, rise]
  | [x], _ => by simp [Ks547.pairsOf]
  | u :: v :: l, h => by
    have hu : 0 ≤ u := h u (by simp)
    have hv : 0 ≤ v := h v (by simp)
    have hl : ∀ x ∈ l, 0 ≤ x := fun x hx => h x (by simp [hx])
    have ih := pairsOf_eq hn l hl
    simp only [List.map_cons, Ks547.pairsOf, tn_lt hn hu, tn_lt hn hv, ih]
    by_cases c1 : n ≤ u ∨ n ≤ v
    · rw [if_pos c1, if_neg]
      rintro ⟨_, h2, _⟩
      have a := h2 u (by simp)
      have b := h2 v (by simp)
      omega
    · rw [if_neg c1]
      by_cases c2 : (l.length % 2 = 0 ∧ (∀ x ∈ l, x < n) ∧ rise (prs l) = true)
      · rw [if_pos c2]
        obtain ⟨d1, d2, d3⟩ := c2
        have e1 : (u :: v :: l).length % 2 = 0 := by
          simp only [List.length_cons]
          omega
        have e2 : ∀ x ∈ u :: v :: l, x < n := by
          intro x hx
          simp only [List.mem_cons] at hx
          rcases hx with rfl | rfl | hx
          · omega
          · omega
          · exact d2 x hx
        have nn := prs_nn l hl
        cases hp : prs l with
        | nil =>
          simp only [List.map_nil]
          rw [if_pos ⟨e1, e2, by simp [prs, hp, rise]⟩]
          simp [prs, hp, tn]
        | cons p r =>
          have pn := nn p (by simp [hp])
          simp only [List.map_cons, tn]
          rw [hp] at d3
          have ec : (u.toNat < p.1.toNat ∨ (u.toNat = p.1.toNat ∧ v.toNat < p.2.toNat)) ↔ ltB (u, v) p = true := by
            rw [ltB_iff]
            simp only
            omega
          by_cases c3 : ltB (u, v) p = true
          · rw [if_pos (ec.mpr c3), if_pos ⟨e1, e2, by simp [prs, hp, rise, c3, d3]⟩]
            simp [prs, hp, tn]
          · rw [if_neg (fun z => c3 (ec.mp z)), if_neg]
            rintro ⟨_, _, h3⟩
            simp only [prs, hp, rise, Bool.and_eq_true] at h3
            exact c3 h3.1
      · rw [if_neg c2, if_neg]
        rintro ⟨h1, h2, h3⟩
        refine c2 ⟨?_, fun x hx => h2 x (by simp [hx]), ?_⟩
        · simp only [List.length_cons] at h1
          omega
        · simp only [prs] at h3
          cases hp : prs l with
          | nil => rfl
          | cons p r =>
            rw [hp] at h3
            simp only [rise, Bool.and_eq_true] at h3
            exact h3.2

theorem isG_iff {n : Int} {l : List Int} : isG n l = true ↔ (1 ≤ n ∧ n ≤ 5) ∧ l.length % 2 = 0 ∧ (∀ x ∈ l, x < n) ∧ rise (prs l) = true := by
  unfold isG
  split
  · rename_i h
    simp only [Bool.false_eq_true, false_iff]
    rintro ⟨⟨_, _⟩, _, _⟩
    omega
  · rename_i h
    simp only [Bool.and_eq_true, List.all_eq_true, decide_eq_true_eq]
    constructor
    · rintro ⟨a, b⟩
      exact ⟨by omega, by omega, a, b⟩
    · rintro ⟨_, _, a, b⟩
      exact ⟨a, b⟩
def mkG (n : Int) (l : List Int) : Ks547.Graph := ⟨n.toNat, (prs l).map tn⟩
theorem graphOf_eq {n : Int} {l : List Int} (hn : 0 ≤ n) (hl : ∀ x ∈ l, 0 ≤ x) :
    Ks547.graphOf n.toNat (l.map Int.toNat) = if isG n l = true then some (mkG n l) else none := by
  unfold Ks547.graphOf
  rw [pairsOf_eq hn l hl]
  by_cases c : n.toNat < 1 ∨ Ks547.PLACES < n.toNat
  · rw [if_pos c, if_neg]
    intro z
    have := (isG_iff.mp z).1
    unfold Ks547.PLACES at c
    omega
  · rw [if_neg c]
    unfold Ks547.PLACES at c
    by_cases d : (l.length % 2 = 0 ∧ (∀ x ∈ l, x < n) ∧ rise (prs l) = true)
    · rw [if_pos d, if_pos (isG_iff.mpr ⟨by omega, d⟩)]
      rfl
    · rw [if_neg d, if_neg (fun z => d (isG_iff.mp z).2)]
      rfl
theorem tell_out (n : Nat) (ps : List (Nat × Nat)) : Ks549Neutral.out (Ks549.tell ⟨n, ps⟩) = told n (ps.map ti) := by
  unfold Ks549Neutral.out Ks549.tell told flat
  simp only [List.map_cons, List.length_map]
  congr 2
  induction ps with
  | nil => rfl
  | cons p r ih =>
    simp only [List.flatMap_cons, List.map_append, List.map_cons, ih]
    rfl
theorem ti_tn {ps : List (Int × Int)} (h : ∀ p ∈ ps, 0 ≤ p.1 ∧ 0 ≤ p.2) : (ps.map tn).map ti = ps := by
  rw [List.map_map]
  have : ps.map (ti ∘ tn) = ps.map id := by
    refine List.map_congr_left fun p hp => ?_
    have := h p hp
    show ((p.1.toNat : Int), (p.2.toNat : Int)) = p
    rw [Int.toNat_of_nonneg this.1, Int.toNat_of_nonneg this.2]
  rw [this, List.map_id]
theorem two_eq {n m : Int} {f s : List Int} (hn : 0 ≤ n) (hm : 0 ≤ m) (hf : ∀ x ∈ f, 0 ≤ x) (hs : ∀ x ∈ s, 0 ≤ x) (k : Ks547.Graph → Ks547.Graph → Ks547.Ans) :
    Ks547.two n.toNat m.toNat (f.map Int.toNat) (s.map Int.toNat) k = if (isG n f && isG m s) = true then k (mkG n f) (mkG m s) else Ks547.no (-22) := by
  unfold Ks547.two Ks547.graph
  rw [graphOf_eq hn hf]
  by_cases a : isG n f = true
  · simp only [graphOf_eq hm hs, a, Bool.true_and, if_true]
    by_cases b : isG m s = true
    · simp only [if_pos b]
    · simp only [if_neg b]
  · simp only [if_neg a]
    rw [if_neg]
    simp [a]
theorem beside_eq {n m : Int} {f s : List Int} (hn : 0 ≤ n) (hm : 0 ≤ m) (hf : ∀ x ∈ f, 0 ≤ x) (hs : ∀ x ∈ s, 0 ≤ x) : PyKs549.beside n m f s = besideM n m f s := by
  show Ks549Neutral.out (Ks547.two n.toNat m.toNat (f.map Int.toNat) (s.map Int.toNat) fun g h => Ks549.tell (Ks549.beside g h)) = _
  rw [two_eq hn hm hf hs]
  unfold besideM
  split
  · unfold Ks549.beside
    rw [tell_out]
    congr 1
    · show ((n.toNat + m.toNat : Nat) : Int) = n + m
      omega
    · show ((prs f).map tn ++ ((prs s).map tn).map fun p => (n.toNat + p.1, n.toNat + p.2)).map ti = _
      rw [List.map_append, ti_tn (prs_nn f hf)]
      congr 1
      rw [List.map_map, List.map_map]
      refine List.map_congr_left fun p hp => ?_
      have := prs_nn s hs p hp
      show (((n.toNat + p.1.toNat : Nat) : Int), ((n.toNat + p.2.toNat : Nat) : Int)) = (n + p.1, n + p.2)
      congr 1 <;> omega
  · rfl
end Gt
namespace Gt
/-! ### rising lists of pairs -/
theorem ltB_trans {p q r : Int × Int} (a : ltB p q = true) (b : ltB q r = true) : ltB p r = true := by
  rw [ltB_iff] at *
  omega
theorem rise_pw : ∀ {l : List (Int × Int)}, rise l = true → l.Pairwise (fun p q => ltB p q = true)
  | [], _ => .nil
  | [_], _ => List.pairwise_singleton ..
  | p :: q :: r, h => by
    simp only [rise, Bool.and_eq_true] at h
    have ih := rise_pw h.2
    refine List.pairwise_cons.mpr ⟨fun x hx => ?_, ih⟩
    rcases List.mem_cons.mp hx with rfl | hx
    · exact h.1
    · exact ltB_trans h.1 ((List.pairwise_cons.mp ih).1 x hx)
theorem pw_nd {l : List (Int × Int)} (h : l.Pairwise (fun p q => ltB p q = true)) : l.Nodup := by
  refine h.imp fun {p q} a e => ?_
  subst e
  rw [ltB_iff] at a
  omega
theorem pw_le {l : List (Int × Int)} (h : l.Pairwise (fun p q => ltB p q = true)) : l.Pairwise (fun p q => ltB q p = false) := by
  refine h.imp fun {p q} a => ?_
  cases e : ltB q p with
  | false => rfl
  | true =>
    rw [ltB_iff] at a e
    omega
theorem le_anti {p q : Int × Int} (a : ltB q p = false) (b : ltB p q = false) : p = q := by
  have a' : ¬ ltB q p = true := by rw [a]; decide
  have b' : ¬ ltB p q = true := by rw [b]; decide
  rw [ltB_iff] at a' b'
  apply Prod.ext <;> omega
/-- two rising rearrangements are one -/
theorem one_of {l r : List (Int × Int)} (h1 : l.Pairwise (fun p q => ltB q p = false)) (h2 : r.Pairwise (fun p q => ltB q p = false)) (p : l.Perm r) : l = r :=
  p.eq_of_pairwise (fun _ _ _ _ a b => le_anti a b) h1 h2
/-! ### make -/
theorem make_mem {N : Nat} {F : Nat → Nat → Bool} {a b : Nat} : (a, b) ∈ (Ks549.make N F).arrows ↔ a < N ∧ b < N ∧ F a b = true := by
  unfold Ks549.make
  simp only [List.mem_flatMap, List.mem_map, List.mem_filter, List.mem_range, Prod.mk.injEq]
  constructor
  · rintro ⟨u, hu, v, ⟨hv, hf⟩, rfl, rfl⟩
    exact ⟨hu, hv, hf⟩
  · rintro ⟨hu, hv, hf⟩
    exact ⟨a, hu, b, ⟨hv, hf⟩, rfl, rfl⟩
theorem make_pw {N : Nat} {F : Nat → Nat → Bool} : ((Ks549.make N F).arrows.map ti).Pairwise (fun p q => ltB p q = true) := by
  rw [List.pairwise_map]
  unfold Ks549.make
  simp only
  rw [List.pairwise_flatMap]
  refine ⟨fun u _ => ?_, List.pairwise_lt_range.imp fun {u v} huv x hx y hy => ?_⟩
  · rw [List.pairwise_map]
    refine (List.pairwise_lt_range.filter _).imp fun {v w} hvw => ?_
    rw [ltB_iff]
    exact .inr ⟨rfl, Int.ofNat_lt.mpr hvw⟩
  · simp only [List.mem_map] at hx hy
    obtain ⟨_, _, rfl⟩ := hx
    obtain ⟨_, _, rfl⟩ := hy
    rw [ltB_iff]
    simp only [ti]
    omega
theorem make_le {N : Nat} {F : Nat → Nat → Bool} : ((Ks549.make N F).arrows.map ti).Pairwise (fun p q => ltB q p = false) := pw_le make_pw
theorem make_nd {N : Nat} {F : Nat → Nat → Bool} : ((Ks549.make N F).arrows.map ti).Nodup := pw_nd make_pw
/-- a list without doubles that has what make has, and rises -/
theorem make_is {N : Nat} {F : Nat → Nat → Bool} {l ys : List (Int × Int)} (nd : l.Nodup) (hm : ∀ p, p ∈ l ↔ ∃ a b : Nat, p = ((a : Int), (b : Int)) ∧ a < N ∧ b < N ∧ F a b = true)
    (hp : ys.Perm l) (hs : ys.Pairwise (fun p q => ltB q p = false)) : (Ks549.make N F).arrows.map ti = ys := by
  refine one_of make_le hs (List.Perm.trans ?_ hp.symm)
  rw [List.perm_ext_iff_of_nodup make_nd nd]
  intro p
  rw [hm, List.mem_map]
  constructor
  · rintro ⟨⟨a, b⟩, h, rfl⟩
    exact ⟨a, b, rfl, make_mem.mp h⟩
  · rintro ⟨a, b, rfl, h⟩
    exact ⟨(a, b), make_mem.mpr h, rfl⟩
/-! ### both -/
def pairUp (m : Int) (p q : Int × Int) : Int × Int := (p.1 * m + q.1, p.2 * m + q.2)
def prod (m : Int) (A B : List (Int × Int)) : List (Int × Int) := A.flatMap fun p => B.map (pairUp m p)
theorem part {m a b c d : Int} (h : a * m + b = c * m + d) (hb : 0 ≤ b ∧ b < m) (hd : 0 ≤ d ∧ d < m) : a = c ∧ b = d := by
  have hm : 0 < m := by omega
  have e1 : (a * m + b) / m = a := by
    rw [Int.add_comm, Int.add_mul_ediv_right _ _ (by omega), Int.ediv_eq_zero_of_lt hb.1 hb.2, Int.zero_add]
  have e2 : (c * m + d) / m = c := by
    rw [Int.add_comm, Int.add_mul_ediv_right _ _ (by omega), Int.ediv_eq_zero_of_lt hd.1 hd.2, Int.zero_add]
  have e : a = c := by rw [← e1, ← e2, h]
  subst e
  exact ⟨rfl, by omega⟩
theorem prod_nd {m : Int} {A B : List (Int × Int)} (hA : A.Nodup) (hB : B.Nodup) (hb : ∀ q ∈ B, (0 ≤ q.1 ∧ q.1 < m) ∧ 0 ≤ q.2 ∧ q.2 < m) : (prod m A B).Nodup := by
  unfold prod List.Nodup
  rw [List.pairwise_flatMap]
  refine ⟨fun p _ => ?_, hA.imp fun {p p'} hne x hx y hy e => ?_⟩
  · rw [List.pairwise_map]
    refine hB.imp_of_mem fun {q q'} hq hq' hne e => hne ?_
    have := Prod.mk.inj e
    exact Prod.ext (part this.1 (hb q hq).1 (hb q' hq').1).2 (part this.2 (hb q hq).2 (hb q' hq').2).2
  · obtain ⟨q, hq, rfl⟩ := List.mem_map.mp hx
    obtain ⟨q', hq', rfl⟩ := List.mem_map.mp hy
    have := Prod.mk.inj e
    exact hne (Prod.ext (part this.1 (hb q hq).1 (hb q' hq').1).1 (part this.2 (hb q hq).2 (hb q' hq').2).1)
theorem mem_prod {m : Int} {A B : List (Int × Int)} {x : Int × Int} : x ∈ prod m A B ↔ ∃ p ∈ A, ∃ q ∈ B, x = pairUp m p q := by
  unfold prod
  simp only [List.mem_flatMap, List.mem_map]
  constructor
  · rintro ⟨p, hp, q, hq, rfl⟩
    exact ⟨p, hp, q, hq, rfl⟩
  · rintro ⟨p, hp, q, hq, rfl⟩
    exact ⟨p, hp, q, hq, rfl⟩
theorem has_mk {n : Int} {l : List Int} {u v : Nat} : Ks547.has (mkG n l) u v = true ↔ ∃ p ∈ prs l, tn p = (u, v) := by
  unfold Ks547.has mkG
  rw [List.contains_iff_mem, List.mem_map]
theorem nat_lt {u v n m : Nat} (hu : u < n) (hv : v < m) : u * m + v < n * m := by
  have h1 : (u + 1) * m ≤ n * m := Nat.mul_le_mul_right m hu
  rw [Nat.succ_mul] at h1
  omega
theorem rng_of {n : Int} {l : List Int} (g : isG n l = true) (hl : ∀ x ∈ l, 0 ≤ x) : ∀ q ∈ prs l, (0 ≤ q.1 ∧ q.1 < n) ∧ 0 ≤ q.2 ∧ q.2 < n := fun q hq => by
  have a := prs_nn l hl q hq
  have b := prs_lt l (isG_iff.mp g).2.2.1 q hq
  omega
theorem nd_of {n : Int} {l : List Int} (g : isG n l = true) : (prs l).Nodup := pw_nd (rise_pw (isG_iff.mp g).2.2.2)
theorem both_eq {n m : Int} {f s : List Int} {ys : List (Int × Int)} (hf : ∀ x ∈ f, 0 ≤ x) (hs : ∀ x ∈ s, 0 ≤ x) (gf : isG n f = true) (gs : isG m s = true)
    (hp : ys.Perm (prod m (prs f) (prs s))) (hy : ys.Pairwise (fun p q => ltB q p = false)) : PyKs549.both n m f s = told (n * m) ys := by
  have n1 := (isG_iff.mp gf).1
  have m1 := (isG_iff.mp gs).1
  have rf := rng_of gf hf
  have rs := rng_of gs hs
  show Ks549Neutral.out (Ks547.two n.toNat m.toNat (f.map Int.toNat) (s.map Int.toNat) fun g h => Ks549.tell (Ks549.both g h)) = _
  rw [two_eq (by omega) (by omega) hf hs, if_pos (by rw [gf, gs]; rfl)]
  unfold Ks549.both
  rw [show Ks549.make ((mkG n f).n * (mkG m s).n) (fun a b => Ks547.has (mkG n f) (a / (mkG m s).n) (b / (mkG m s).n) && Ks547.has (mkG m s) (a % (mkG m s).n) (b % (mkG m s).n)) = ⟨(mkG n f).n * (mkG m s).n, (Ks549.make ((mkG n f).n * (mkG m s).n) (fun a b => Ks547.has (mkG n f) (a / (mkG m s).n) (b / (mkG m s).n) && Ks547.has (mkG m s) (a % (mkG m s).n) (b % (mkG m s).n))).arrows⟩ from rfl, tell_out]
  have ez : (((mkG n f).n * (mkG m s).n : Nat) : Int) = n * m := by
    show ((n.toNat * m.toNat : Nat) : Int) = n * m
    rw [Int.natCast_mul, Int.toNat_of_nonneg (by omega), Int.toNat_of_nonneg (by omega)]
  rw [ez]
  congr 1
  refine make_is (prod_nd (nd_of gf) (nd_of gs) rs) (fun x => ?_) hp hy
  rw [mem_prod]
  show _ ↔ ∃ a b : Nat, x = ((a : Int), (b : Int)) ∧ a < n.toNat * m.toNat ∧ b < n.toNat * m.toNat ∧ (Ks547.has (mkG n f) (a / m.toNat) (b / m.toNat) && Ks547.has (mkG m s) (a % m.toNat) (b % m.toNat)) = true
  simp only [Bool.and_eq_true, has_mk]
  have mm : ((m.toNat : Nat) : Int) = m := Int.toNat_of_nonneg (by omega)
  constructor
  · rintro ⟨p, hp, q, hq, rfl⟩
    have a := rf p hp
    have b := rs q hq
    have z1 : q.1.toNat < m.toNat := by omega
    have z2 : q.2.toNat < m.toNat := by omega
    refine ⟨p.1.toNat * m.toNat + q.1.toNat, p.2.toNat * m.toNat + q.2.toNat, ?_, nat_lt (by omega) z1, nat_lt (by omega) z2, ⟨p, hp, ?_⟩, q, hq, ?_⟩
    · show (p.1 * m + q.1, p.2 * m + q.2) = _
      rw [Int.natCast_add, Int.natCast_add, Int.natCast_mul, Int.natCast_mul, mm, Int.toNat_of_nonneg a.1.1, Int.toNat_of_nonneg a.2.1, Int.toNat_of_nonneg b.1.1, Int.toNat_of_nonneg b.2.1]
    · show (p.1.toNat, p.2.toNat) = _
      rw [Nat.mul_comm, Nat.mul_add_div (by omega), Nat.div_eq_of_lt z1, Nat.add_zero, Nat.mul_comm, Nat.mul_add_div (by omega), Nat.div_eq_of_lt z2, Nat.add_zero]
    · show (q.1.toNat, q.2.toNat) = _
      rw [Nat.mul_comm, Nat.mul_add_mod, Nat.mod_eq_of_lt z1, Nat.mul_comm, Nat.mul_add_mod, Nat.mod_eq_of_lt z2]
  · rintro ⟨a, b, rfl, _, _, ⟨p, hp, ep⟩, q, hq, eq⟩
    refine ⟨p, hp, q, hq, ?_⟩
    have e1 := Prod.mk.inj (show (p.1.toNat, p.2.toNat) = _ from ep)
    have e2 := Prod.mk.inj (show (q.1.toNat, q.2.toNat) = _ from eq)
    have x := rf p hp
    have y := rs q hq
    have d1 := Nat.div_add_mod a m.toNat
    have d2 := Nat.div_add_mod b m.toNat
    rw [← e1.1, ← e2.1] at d1
    rw [← e1.2, ← e2.2] at d2
    show ((a : Int), (b : Int)) = (p.1 * m + q.1, p.2 * m + q.2)
    rw [← d1, ← d2, Int.natCast_add, Int.natCast_add, Int.natCast_mul, Int.natCast_mul, mm, Int.toNat_of_nonneg x.1.1, Int.toNat_of_nonneg x.2.1, Int.toNat_of_nonneg y.1.1, Int.toNat_of_nonneg y.2.1, Int.mul_comm m, Int.mul_comm m]
theorem both_no {n m : Int} {f s : List Int} (hn : 0 ≤ n) (hm : 0 ≤ m) (hf : ∀ x ∈ f, 0 ≤ x) (hs : ∀ x ∈ s, 0 ≤ x) (g : (isG n f && isG m s) = false) : PyKs549.both n m f s = [-22] := by
  show Ks549Neutral.out (Ks547.two n.toNat m.toNat (f.map Int.toNat) (s.map Int.toNat) fun g h => Ks549.tell (Ks549.both g h)) = _
  rw [two_eq hn hm hf hs, if_neg (by rw [g]; decide)]
  rfl
end Gt
namespace Gt
/-! ### turned -/
def swp (p : Int × Int) : Int × Int := (p.2, p.1)
theorem swp_nd {l : List (Int × Int)} (h : l.Nodup) : (l.map swp).Nodup := by
  unfold List.Nodup
  rw [List.pairwise_map]
  refine h.imp fun {p q} hne e => hne ?_
  have := Prod.mk.inj e
  exact Prod.ext this.2 this.1
theorem turned_no {n : Int} {f : List Int} (hn : 0 ≤ n) (hf : ∀ x ∈ f, 0 ≤ x) (g : isG n f = false) : PyKs549.turned n f = [-22] := by
  show Ks549Neutral.out (Ks547.graph n.toNat (f.map Int.toNat) fun g => Ks549.tell (Ks549.turned g)) = _
  unfold Ks547.graph
  rw [graphOf_eq hn hf, if_neg (by rw [g]; decide)]
  rfl
theorem turned_eq {n : Int} {f : List Int} {ys : List (Int × Int)} (hf : ∀ x ∈ f, 0 ≤ x) (g : isG n f = true)
    (hp : ys.Perm ((prs f).map swp)) (hy : ys.Pairwise (fun p q => ltB q p = false)) : PyKs549.turned n f = told n ys := by
  have n1 := (isG_iff.mp g).1
  have rf := rng_of g hf
  show Ks549Neutral.out (Ks547.graph n.toNat (f.map Int.toNat) fun g => Ks549.tell (Ks549.turned g)) = _
  unfold Ks547.graph
  rw [graphOf_eq (by omega) hf, if_pos g]
  show Ks549Neutral.out (Ks549.tell ⟨n.toNat, (Ks549.make n.toNat fun u v => Ks547.has (mkG n f) v u).arrows⟩) = _
  rw [tell_out, Int.toNat_of_nonneg (by omega)]
  congr 1
  refine make_is (swp_nd (nd_of g)) (fun x => ?_) hp hy
  simp only [has_mk, List.mem_map]
  constructor
  · rintro ⟨p, hp, rfl⟩
    have a := rf p hp
    refine ⟨p.2.toNat, p.1.toNat, ?_, by omega, by omega, p, hp, rfl⟩
    show (p.2, p.1) = _
    rw [Int.toNat_of_nonneg a.1.1, Int.toNat_of_nonneg a.2.1]
  · rintro ⟨a, b, rfl, _, _, p, hp, e⟩
    have e1 := Prod.mk.inj (show (p.1.toNat, p.2.toNat) = _ from e)
    have x := rf p hp
    refine ⟨p, hp, ?_⟩
    show (p.2, p.1) = _
    apply Prod.ext
    · show p.2 = (a : Int)
      omega
    · show p.1 = (b : Int)
      omega
end Gt
/-! ### heaps, lists of pairs, ranges: for any program -/
namespace Gt
open PySem PySem.Spec PyProof.Rows L2
theorem small_n {n : Nat} (h : n ≤ 1000000) : n < sizeLine := Nat.lt_of_le_of_lt h (by decide)
theorem same_upd {H : Hp} {D : Addr} {o : HO} (new : H D = none) : Same H (upd H D o) := fun b x e => (upd_ne (ne_of_none e new)).trans e
/-- what was ahead of D stays, whatever D holds -/
theorem same_at {H H' : Hp} {D : Addr} {o : HO} (s : Same H H') (h : H D = none) : Same H (upd H' D o) := fun b x e => by
  rw [upd_ne (ne_of_none e h)]
  exact s b x e
/-- tuples stay -/
def KT (H H' : Hp) : Prop := ∀ t xs, H t = some (.tup xs) → H' t = some (.tup xs)
theorem KT.trans {H H1 H2 : Hp} (a : KT H H1) (b : KT H1 H2) : KT H H2 := fun t xs e => b t xs (a t xs e)
theorem KT.of {H H' : Hp} (s : Same H H') : KT H H' := fun t xs e => s t _ e
theorem KT.lst {H : Hp} {D : Addr} {l : List V} {o : HO} (h : H D = some (.lst l)) : KT H (upd H D o) := fun t xs e => by
  rw [upd_ne (ne_of e h (by intro z; cases z))]
  exact e
theorem KT.new {H : Hp} {D : Addr} {o : HO} (h : H D = none) : KT H (upd H D o) := .of (same_upd h)
/-- vs are pairs of ints, the ints ps -/
inductive TPs (H : Hp) : List V → List (Int × Int) → Prop
  | nil : TPs H [] []
  | cons {t : Addr} {vs : List V} {p : Int × Int} {ps : List (Int × Int)} : H t = some (.tup [.int p.1, .int p.2]) → TPs H vs ps → TPs H (.ref t :: vs) (p :: ps)
theorem TPs.mono {H H' : Hp} (k : KT H H') : ∀ {vs : List V} {ps : List (Int × Int)}, TPs H vs ps → TPs H' vs ps
  | _, _, .nil => .nil
  | _, _, .cons e r => .cons (k _ _ e) (TPs.mono k r)
theorem TPs.len {H : Hp} : ∀ {vs : List V} {ps : List (Int × Int)}, TPs H vs ps → vs.length = ps.length
  | _, _, .nil => rfl
  | _, _, .cons _ r => by rw [List.length_cons, List.length_cons, TPs.len r]
theorem TPs.app {H : Hp} : ∀ {vs us : List V} {ps qs : List (Int × Int)}, TPs H vs ps → TPs H us qs → TPs H (vs ++ us) (ps ++ qs)
  | _, _, _, _, .nil, b => b
  | _, _, _, _, .cons e r, b => .cons e (TPs.app r b)
theorem TPs.one {H : Hp} {t : Addr} {p : Int × Int} (e : H t = some (.tup [.int p.1, .int p.2])) : TPs H [.ref t] [p] := .cons e .nil
theorem TPs.get {H : Hp} : ∀ {vs : List V} {ps : List (Int × Int)} {i : Nat} {p : Int × Int}, TPs H vs ps → ps[i]? = some p → ∃ t, vs[i]? = some (.ref t) ∧ H t = some (.tup [.int p.1, .int p.2])
  | _, _, i, p, .nil, h => by simp at h
  | _, _, 0, p, .cons (t := t) e r, h => by
    cases Option.some.inj h
    exact ⟨t, rfl, e⟩
  | _, _, i + 1, p, .cons e r, h => TPs.get r (i := i) h
theorem TPs.at {H : Hp} {vs : List V} {ps : List (Int × Int)} {i : Nat} {v : V} (h : TPs H vs ps) (e : vs[i]? = some v) : ∃ t p, v = .ref t ∧ ps[i]? = some p ∧ H t = some (.tup [.int p.1, .int p.2]) := by
  have hi : i < ps.length := by
    rw [← h.len]
    exact (List.getElem?_eq_some_iff.mp e).1
  obtain ⟨t, e1, e2⟩ := h.get (List.getElem?_eq_getElem hi)
  rw [e] at e1
  exact ⟨t, _, Option.some.inj e1, List.getElem?_eq_getElem hi, e2⟩
theorem take_more {α : Type} {l : List α} {i : Nat} {x : α} (h : l[i]? = some x) : l.take (i + 1) = l.take i ++ [x] := by
  rw [List.take_add_one, h]
  rfl
theorem fits {i : Int} (h1 : -1000 ≤ i) (h2 : i ≤ 100000) : Builtin.Range.rangeFitsLong i = true := by
  unfold Builtin.Range.rangeFitsLong
  rw [Bool.and_eq_true]
  exact ⟨decide_eq_true (by omega), decide_eq_true (by omega)⟩
/-- range(0, n, 2) of an even n -/
theorem rg_two {n : Nat} (hn : n ≤ 1000) (he : n % 2 = 0) : RgC 0 (n : Int) 2 (n / 2) := by
  have e : Builtin.Range.rangeSize 0 (n : Int) 2 = ((n / 2 : Nat) : Int) := by
    unfold Builtin.Range.rangeSize
    rw [if_pos (by decide)]
    split <;> omega
  refine ⟨by decide, by decide, ?_, e⟩
  unfold Builtin.Range.small
  rw [e]
  have f1 := fits (i := 0) (by decide) (by decide)
  have f2 := fits (i := 2) (by decide) (by decide)
  have f3 := fits (i := (n : Int)) (by omega) (by omega)
  have f4 := fits (i := ((n / 2 : Nat) : Int)) (by omega) (by omega)
  have f5 := fits (i := (n : Int) + (2 - 1)) (by omega) (by omega)
  rw [if_pos (show (2 : Int) > 0 by decide)]
  rw [f1, f2, f3, f4, f5]
  cases ((n / 2 : Nat) : Int) == 0 <;> rfl
theorem lex2 (p q : Int × Int) : HT.lexLt [p.1, p.2] [q.1, q.2] = ltB p q := by
  rw [HT.lexLt_cons, HT.lexLt_cons, HT.lexLt_nil_nil]
  unfold ltB
  split
  · split
    · rename_i h
      rw [h]
      simp
    · rfl
  · rfl
theorem prs_get : ∀ {l : List Int} {i : Nat} {u v : Int}, l[2 * i]? = some u → l[2 * i + 1]? = some v → (prs l)[i]? = some (u, v)
  | [], _, _, _, h, _ => by simp at h
  | [_], 0, _, _, _, h => by simp at h
  | [_], i + 1, _, _, h, _ => by simp [Nat.mul_add] at h
  | a :: b :: l, 0, u, v, h1, h2 => by
    cases Option.some.inj h1
    cases Option.some.inj h2
    rfl
  | a :: b :: l, i + 1, u, v, h1, h2 => by
    have e : 2 * (i + 1) = 2 * i + 1 + 1 := by omega
    rw [e] at h1 h2
    exact prs_get (l := l) (i := i) h1 h2
/-- the truths of «each is greater than the one ahead of it», by place -/
def upTo (ps : List (Int × Int)) (i : Nat) : List Bool := (List.range i).map fun j => ltB (ps.getD j (0, 0)) (ps.getD (j + 1) (0, 0))
theorem upTo_more (ps : List (Int × Int)) (i : Nat) : upTo ps (i + 1) = upTo ps i ++ [ltB (ps.getD i (0, 0)) (ps.getD (i + 1) (0, 0))] := by
  unfold upTo
  rw [List.range_succ, List.map_append]
  rfl
theorem upTo_all : ∀ (ps : List (Int × Int)), (upTo ps (ps.length - 1)).all id = rise ps
  | [] => rfl
  | [_] => rfl
  | p :: q :: r => by
    have ih := upTo_all (q :: r)
    unfold upTo at ih ⊢
    have e : (p :: q :: r).length - 1 = ((q :: r).length - 1) + 1 := by
      simp only [List.length_cons]
      omega
    rw [e, List.range_succ_eq_map, List.map_cons, List.all_cons, List.map_map]
    show (ltB p q && _) = (ltB p q && rise (q :: r))
    rw [← ih]
    rfl
end Gt
/-! ### a list that a loop fills; sorted -/
namespace Gt
open PySem PySem.Spec PyProof.Rows L2
/-- all but what stands at o is as it was -/
def SB (o : Addr) (H H' : Hp) : Prop := ∀ b x, b ≠ o → H b = some x → H' b = some x
theorem SB.refl (o : Addr) (H : Hp) : SB o H H := fun _ _ _ h => h
theorem SB.trans {o : Addr} {H H1 H2 : Hp} (a : SB o H H1) (b : SB o H1 H2) : SB o H H2 := fun c x n e => b c x n (a c x n e)
theorem SB.of {o : Addr} {H H' : Hp} (s : Same H H') : SB o H H' := fun b x _ e => s b x e
theorem SB.at {o : Addr} {H : Hp} {x : HO} : SB o H (upd H o x) := fun b y n e => by
  rw [upd_ne n]
  exact e
theorem SB.same {o : Addr} {H0 H H' : Hp} (s : Same H0 H) (h : H0 o = none) (b : SB o H H') : Same H0 H' := fun c x e => b c x (ne_of_none e h) (s c x e)
theorem KT.sb {o : Addr} {H H' : Hp} {l : List V} (s : SB o H H') (h : H o = some (.lst l)) : KT H H' := fun t xs e => s t _ (ne_of e h (by intro z; cases z)) e
/-- the pair of ints that stands at an address -/
def kOf (H : Hp) : V → Int × Int
  | .ref t => match H t with
    | some (.tup [.int i, .int j]) => (i, j)
    | _ => (0, 0)
  | _ => (0, 0)
theorem kOf_ref {H : Hp} {t : Addr} {p : Int × Int} (h : H t = some (.tup [.int p.1, .int p.2])) : kOf H (.ref t) = p := by
  unfold kOf
  simp only [h]
theorem TPs.map {H : Hp} : ∀ {vs : List V} {ps : List (Int × Int)}, TPs H vs ps → vs.map (kOf H) = ps
  | _, _, .nil => rfl
  | _, _, .cons e r => by rw [List.map_cons, kOf_ref e, TPs.map r]
theorem TPs.mem {H : Hp} : ∀ {vs : List V} {ps : List (Int × Int)}, TPs H vs ps → ∀ x ∈ vs, ∃ t, x = .ref t ∧ H t = some (.tup [.int (kOf H x).1, .int (kOf H x).2])
  | _, _, .nil, x, hx => by simp at hx
  | _, _, .cons (t := t) e r, x, hx => by
    rcases List.mem_cons.mp hx with rfl | hx
    · exact ⟨t, rfl, by rw [kOf_ref e]; exact e⟩
    · exact TPs.mem r x hx
theorem TPs.of_mem {H : Hp} : ∀ (vs : List V), (∀ x ∈ vs, ∃ t, x = .ref t ∧ H t = some (.tup [.int (kOf H x).1, .int (kOf H x).2])) → TPs H vs (vs.map (kOf H))
  | [], _ => .nil
  | x :: r, h => by
    obtain ⟨t, rfl, e⟩ := h x (by simp)
    exact .cons e (TPs.of_mem r fun y hy => h y (by simp [hy]))
end Gt
/-! ### the text -/
namespace Gt
open PySem PySem.Spec PyProof.Rows L2
def topS (i : Nat) : Stmt := PySem.Challenge.pw_graphstogether_s04_turned.main.body.getD i (.Pass ⟨0, 0, 0, 0⟩)
abbrev sTur : Stmt := topS 3
abbrev sIsG : Stmt := topS 4
abbrev sRis : Stmt := topS 5
abbrev sArr : Stmt := topS 6
abbrev sAns : Stmt := topS 7
end Gt
/-! ### the defs that all calls share -/
namespace Gt
open PySem PySem.Spec PyProof.Rows L2
theorem scArr : FnScope ["told", "k"] ["told"] (defScope sArr) := ⟨rfl, rfl, rfl, by decide +kernel, rfl, by decide +kernel, by decide +kernel⟩
theorem scRis : FnScope ["arrows", "k"] ["arrows"] (defScope sRis) := ⟨rfl, rfl, rfl, by decide +kernel, rfl, by decide +kernel, by decide +kernel⟩
theorem scIsG : FnScope ["places", "told", "place"] ["places", "told"] (defScope sIsG) := ⟨rfl, rfl, rfl, by decide +kernel, rfl, by decide +kernel, by decide +kernel⟩
def spArr (K : PySem.W.Frag) : Sp := fun vs H Q _ => ∃ (a : Addr) (ns : List Int), vs = [.ref a] ∧ SqL K H a (ns.map V.int) ∧ ns.length ≤ 1000 ∧ ns.length % 2 = 0 ∧
  ∀ (H' : Hp) (p : Addr) (us : List V), Same H H' → H p = none → H' p = some (.lst us) → TPs H' us (prs ns) → Q (.ref p) H'
def spRis : Sp := fun vs H Q _ => ∃ (a : Addr) (us : List V) (ps : List (Int × Int)), vs = [.ref a] ∧ H a = some (.lst us) ∧ TPs H us ps ∧ ps.length ≤ 1000 ∧
  ∀ H' : Hp, Same H H' → Q (.bl (rise ps)) H'
def spIsG (K : PySem.W.Frag) : Sp := fun vs H Q _ => ∃ (n : Int) (a : Addr) (ns : List Int), vs = [.int n, .ref a] ∧ SqL K H a (ns.map V.int) ∧ ns.length ≤ 1000 ∧
  ∀ H' : Hp, Same H H' → Q (.bl (isG n ns)) H'
section
variable {P : Program} {w : World} {K : PySem.W.Frag} {mg : Str → Option Value} {base : Heap}
theorem ok_arr {f : Addr} {fd : FuncData} {k : Nat} (F : Fun K "arrows_of" "arrows_of" sArr f fd) (mr : mg "range" = none) (ml : mg "len" = none) : FnOk P w K mg base CX0 (k + 1) f fd ["told"] (spArr K) := by
  refine F.ok scArr (fun vs H Q E h => ?_) (fun cdv A outer s H vs Q E hr h => ?_)
  · obtain ⟨a, ns, rfl, _⟩ := h
    rfl
  · obtain ⟨a, ns, rfl, hS, hlen, hev, q⟩ := h
    refine ⟨_, pss_one (ps_ret (pe_lc (own := [("k", 1)]) (g := gName 1) (tt := tYes) rfl scArr.nd
      (pi_range3 (by rfl) mr (pa_cons pe_int (pa_cons (pe_callB call_len_seq (by rfl) ml PySem.boot_len (pa_cons (pv 0) pa_nil)) (pa_cons pe_int pa_nil))))
      (blkOk_by (N := ["told", "k"]) (sc := defScope sArr) (by decide +kernel)) (fun _ _ _ _ _ => pg_name (i := 1) scArr.nd rfl (Or.inl rfl)) (fun _ _ _ _ _ => pts_nil)
      (fun _ _ _ _ _ => pe_tup (pa_cons (pe_ix (r := rIxL K) ix_list (pv 0) (pv 1) (fun _ _ => rfl)) (pa_cons (pe_ix (r := rIxL K) ix_list (pv 0) (pe_op op_add (pv 1) pe_int) (fun _ _ => rfl)) pa_nil))))), ?_⟩
    have hl2 : ((ns.map V.int).length : Int) = (ns.length : Int) := by rw [List.length_map]
    refine ⟨.ref a, rfl, a, ns.map V.int, rfl, .inl hS, 0, ((ns.map V.int).length : Int), 2, ns.length / 2, rfl, hl2 ▸ rg_two hlen hev, fun D nD => ?_⟩
    refine lc_it (walk_rangeC (lo := 0) (c := 2) (n := ns.length / 2)) (fun i H1 => Same H H1 ∧ ∃ us, H1 D = some (.lst us) ∧ TPs H1 us ((prs ns).take i)) ⟨same_upd nD, [], upd_same, by rw [List.take_zero]; exact .nil⟩ (fun _ _ _ _ => trivial) ?_ ?_
    · rintro i x H0 H1 hi ⟨s1, us, e1, t1⟩ ⟨e0, rfl⟩
      subst e0
      have h1 : 2 * i < ns.length := by omega
      have h2 : 2 * i + 1 < ns.length := by omega
      have g1 : (ns.map V.int)[2 * i]? = some (.int ns[2 * i]) := by
        rw [List.getElem?_map, List.getElem?_eq_getElem h1]
        rfl
      have g2 : (ns.map V.int)[2 * i + 1]? = some (.int ns[2 * i + 1]) := by
        rw [List.getElem?_map, List.getElem?_eq_getElem h2]
        rfl
      have gp : (prs ns)[i]? = some (ns[2 * i], ns[2 * i + 1]) := prs_get (List.getElem?_eq_getElem h1) (List.getElem?_eq_getElem h2)
      have hA : SqL K H1 a (ns.map V.int) := s1.seq hS
      refine ⟨rfl, ?_⟩
      refine ⟨.ref a, rfl, .int (0 + (i : Nat) * 2), rfl, a, _, 0 + (i : Nat) * 2, .int ns[2 * i], rfl, rfl, hA, at_of (j := 2 * i) (by omega) g1, ?_⟩
      refine ⟨.ref a, rfl, .int (0 + (i : Nat) * 2), rfl, 0 + (i : Nat) * 2, 1, rfl, rfl, a, _, 0 + (i : Nat) * 2 + 1, .int ns[2 * i + 1], rfl, rfl, hA, at_of (j := 2 * i + 1) (by omega) g2, ?_⟩
      refine ⟨(by show 2 ≤ sizeLine; decide), fun T nT => ?_⟩
      have nDT : D ≠ T := ne_of_none e1 nT
      have eD : (upd H1 T (.tup [.int ns[2 * i], .int ns[2 * i + 1]])) D = some (.lst us) := by
        rw [upd_ne nDT]
        exact e1
      refine ⟨us, eD, ?_, ?_⟩
      · rw [t1.len, List.length_take, prs_len]
        exact small_n (by omega)
      · refine ⟨same_at (s1.trans (same_upd nT)) nD, _, upd_same, ?_⟩
        rw [take_more gp]
        refine ((t1.mono (KT.new nT)).mono (KT.lst eD)).app (TPs.one ?_)
        exact KT.lst eD _ _ upd_same
    · rintro H1 ⟨s1, us, e1, t1⟩
      rw [List.take_of_length_le (by rw [prs_len]; exact Nat.le_refl _)] at t1
      exact q H1 D us s1 nD e1 t1
theorem ok_ris {f : Addr} {fd : FuncData} {k : Nat} (F : Fun K "is_rising" "is_rising" sRis f fd) (mr : mg "range" = none) (ml : mg "len" = none) (ma : mg "all" = none) : FnOk P w K mg base CX0 (k + 1) f fd ["arrows"] spRis := by
  refine F.ok scRis (fun vs H Q E h => ?_) (fun cdv A outer s H vs Q E hr h => ?_)
  · obtain ⟨a, us, ps, rfl, _⟩ := h
    rfl
  · obtain ⟨a, us, ps, rfl, hS, ht, hlen, q⟩ := h
    refine ⟨_, pss_one (ps_ret (pe_callB (cr_all rfl) (by rfl) ma (by decide +kernel) (pa_cons (pe_lc (own := [("k", 1)]) (g := gName 1) (tt := tYes) rfl scRis.nd
      (pi_range2 (by rfl) mr (pa_cons pe_int (pa_cons (pe_callB call_len_seq (by rfl) ml PySem.boot_len (pa_cons (pv 0) pa_nil)) pa_nil)))
      (blkOk_by (N := ["arrows", "k"]) (sc := defScope sRis) (by decide +kernel)) (fun _ _ _ _ _ => pg_name (i := 1) scRis.nd rfl (Or.inl rfl)) (fun _ _ _ _ _ => pts_nil)
      (fun _ _ _ _ _ => pe_cmpR (r := rLtT K) (op_ltT hr.units0) (pe_ix (r := rIxL K) ix_list (pv 0) (pe_op op_sub (pv 1) pe_int) (fun _ _ => rfl)) (pe_ix (r := rIxL K) ix_list (pv 0) (pv 1) (fun _ _ => rfl)) (nomark _))) pa_nil))), ?_⟩
    have hl := ht.len
    refine ⟨.ref a, rfl, a, us, rfl, .inl (SqL.of hS), 1, (us.length : Int), rfl, ⟨by decide, by decide, by omega, by omega⟩, fun D nD => ?_⟩
    have nn : ((us.length : Int) - 1).toNat = ps.length - 1 := by omega
    rw [nn]
    refine lc_range (fun i H1 => Same H H1 ∧ H1 D = some (.lst ((upTo ps i).map V.bl))) ⟨same_upd nD, upd_same⟩ ?_ ?_
    · rintro i H1 hi ⟨s1, e1⟩
      have h1 : i < ps.length := by omega
      have h2 : i + 1 < ps.length := by omega
      obtain ⟨t, g1, k1⟩ := ht.get (List.getElem?_eq_getElem h1)
      obtain ⟨t', g2, k2⟩ := ht.get (List.getElem?_eq_getElem h2)
      have hA : SqL K H1 a us := SqL.of (s1 _ _ hS)
      refine ⟨rfl, ?_⟩
      refine ⟨.ref a, rfl, .int (1 + (i : Nat)), rfl, 1 + (i : Nat), 1, rfl, rfl, a, _, 1 + (i : Nat) - 1, .ref t, rfl, rfl, hA, at_of (j := i) (by omega) g1, ?_⟩
      refine ⟨.ref a, rfl, .int (1 + (i : Nat)), rfl, a, _, 1 + (i : Nat), .ref t', rfl, rfl, hA, at_of (j := i + 1) (by omega) g2, ?_⟩
      refine ⟨t, t', [ps[i].1, ps[i].2], [ps[i + 1].1, ps[i + 1].2], rfl, rfl, SqT.of (s1 _ _ k1), SqT.of (s1 _ _ k2), _, e1, ?_, ?_⟩
      · rw [List.length_map]
        unfold upTo
        rw [List.length_map, List.length_range]
        exact small_n (by omega)
      · refine ⟨same_at s1 nD, ?_⟩
        rw [upd_same, lex2, upTo_more, List.map_append, List.getD_eq_getElem?_getD, List.getD_eq_getElem?_getD, List.getElem?_eq_getElem h1, List.getElem?_eq_getElem h2]
        rfl
    · rintro H1 ⟨s1, e1⟩
      refine ⟨D, _, rfl, SqL.of e1, ?_⟩
      rw [upTo_all]
      exact q H1 s1
theorem ok_isg {f fA fR : Addr} {fd fdA fdR : FuncData} {k : Nat} {t5 : Tok} (F : Fun K "is_graph" "is_graph" sIsG f fd) (FA : Fun K "arrows_of" "arrows_of" sArr fA fdA) (bA : Binds K fdA ["told"] []) (gA : mg "arrows_of" = some (.ref fA))
    (FR : Fun K "is_rising" "is_rising" sRis fR fdR) (bR : Binds K fdR ["arrows"] []) (gR : mg "is_rising" = some (.ref fR)) (gM : mg "MOST_PLACES" = some (.int 5 t5)) (mr : mg "range" = none) (ml : mg "len" = none) (ma : mg "all" = none) :
    FnOk P w K mg base CX0 (k + 2) f fd ["places", "told"] (spIsG K) := by
  have GA : FnOk P w K mg base CX0 (k + 1) fA fdA ["told"] (spArr K) := ok_arr FA mr ml
  have GR : FnOk P w K mg base CX0 (k + 1) fR fdR ["arrows"] spRis := ok_ris FR mr ml ma
  refine F.ok scIsG (fun vs H Q E h => ?_) (fun cdv A outer s H vs Q E hr h => ?_)
  · obtain ⟨n, a, ns, rfl, _⟩ := h
    rfl
  · obtain ⟨n, a, ns, rfl, hS, hlen, q⟩ := h
    refine ⟨_, pss_cons (ps_if (pw_or (pt_cmpR op_lt (pv 0) pe_int (nomark _)) (pw_or (pt_cmpR op_gt (pv 0) (pe_glob (v := .int 5) (by rfl) gM ⟨_, rfl⟩) (nomark _))
        (pw_or1 (pt_cmpR op_ne (pe_op op_mod (pe_callB call_len_seq (by rfl) ml PySem.boot_len (pa_cons (pv 1) pa_nil)) pe_int) pe_int (nomark _))))).pt
        (pss_one (ps_ret pe_bl)) pss_nil)
      (pss_one (ps_ret (pe_and (pe_callB (cr_all rfl) (by rfl) ma (by decide +kernel) (pa_cons (pe_lc (own := [("place", 2)]) (g := gName 2) (tt := tYes) rfl scIsG.nd (pi_list (pv 1))
          (blkOk_by (N := ["places", "told", "place"]) (sc := defScope sIsG) (by decide +kernel)) (fun _ _ _ _ _ => pg_name (i := 2) scIsG.nd rfl (Or.inl rfl)) (fun _ _ _ _ _ => pts_nil)
          (fun _ _ _ _ _ => pe_cmpR op_lt (pv 2) (pv 0) (nomark _))) pa_nil))
        (pe_one (pe_call GR hr (by rfl) gR FR.kp bR .nil pass0 (pa_cons (pe_call GA hr (by rfl) gA FA.kp bA .nil pass0 (pa_cons (pv 1) pa_nil)) pa_nil)))))), ?_⟩
    -- places < 1
    refine ⟨.int n, rfl, n, 1, rfl, rfl, _, rfl, ite2 (fun c => ?_) (fun c => ?_)⟩
    · refine iteT ?_
      have e : isG n ns = false := by
        unfold isG
        rw [if_pos (.inl (of_decide_eq_true c))]
      exact e ▸ q H (Same.refl H)
    -- places > MOST_PLACES
    · refine ⟨.int n, rfl, n, 5, rfl, rfl, _, rfl, ite2 (fun c2 => ?_) (fun c2 => ?_)⟩
      · refine iteT ?_
        have e : isG n ns = false := by
          unfold isG
          rw [if_pos (.inr (.inl (of_decide_eq_true c2)))]
        exact e ▸ q H (Same.refl H)
      -- len(told) % 2 != 0
      · refine ⟨.ref a, rfl, a, ns.map V.int, rfl, .inl hS, ((ns.map V.int).length : Int), 2, rfl, rfl, (by show (0 : Int) < 2; decide), rfl, _, rfl, ite2 (fun c3 => ?_) (fun c3 => ?_)⟩
        · have od : ns.length % 2 ≠ 0 := by
            intro z
            have c5 : (!decide (V.int (((ns.map V.int).length : Int) % 2) = V.int 0)) = true := c3
            rw [List.length_map, show ((ns.length : Int) % 2) = 0 by omega, decide_eq_true rfl] at c5
            cases c5
          have e : isG n ns = false := by
            unfold isG
            rw [if_pos (.inr (.inr od))]
          exact e ▸ q H (Same.refl H)
        · have ev : ns.length % 2 = 0 := by
            rw [List.length_map] at c3
            simp only [Bool.not_eq_true', decide_eq_false_iff_not, Classical.not_not] at c3
            have := V.int.inj c3
            omega
          have n1 : ¬ (n < 1 ∨ 5 < n ∨ ns.length % 2 ≠ 0) := by
            simp only [decide_eq_true_eq] at c c2
            omega
          -- all([place < places for place in told])
          refine ⟨.ref a, rfl, a, rfl, ⟨_, hS⟩, fun D nD => ?_⟩
          refine lc_list (K := K) (a := a) (xs := ns.map V.int) (fun i H1 => Same H H1 ∧ H1 D = some (.lst (((ns.take i).map fun x => decide (x < n)).map V.bl))) ⟨same_upd nD, upd_same⟩ (fun i H1 _ h1 => h1.1.seq hS) ?_ ?_
          · rintro i x H1 hx ⟨s1, e1⟩
            rw [List.getElem?_map] at hx
            obtain ⟨z, hz, rfl⟩ := Option.map_eq_some_iff.mp hx
            refine ⟨rfl, ?_⟩
            refine ⟨.int z, rfl, .int n, rfl, z, n, rfl, rfl, _, e1, ?_, same_at s1 nD, ?_⟩
            · rw [List.length_map, List.length_map, List.length_take]
              exact small_n (by omega)
            · rw [upd_same, take_more hz, List.map_append, List.map_append]
              rfl
          · rintro H1 ⟨s1, e1⟩
            rw [List.length_map, List.take_length] at e1
            refine ⟨D, _, rfl, SqL.of e1, _, rfl, ite2 (fun c4 => ?_) (fun c4 => ?_)⟩
            · -- is_rising(arrows_of(told))
              refine ⟨.ref a, rfl, a, ns, rfl, s1.seq hS, hlen, ev, fun H2 p us s2 _ e2 t2 => ?_⟩
              refine ⟨p, us, _, rfl, e2, t2, by rw [prs_len]; omega, fun H3 s3 => ?_⟩
              have e : isG n ns = rise (prs ns) := by
                unfold isG
                rw [if_neg n1]
                rw [List.all_map] at c4
                rw [show (ns.all fun x => decide (x < n)) = true from c4, Bool.true_and]
              exact e ▸ q H3 (s1.trans (s2.trans s3))
            · have e : isG n ns = false := by
                unfold isG
                rw [if_neg n1]
                rw [List.all_map] at c4
                rw [show (ns.all fun x => decide (x < n)) = false from Bool.eq_false_iff.mpr c4, Bool.false_and]
              exact e ▸ q H1 s1
end
end Gt
/-! ### answer -/
namespace Gt
open PySem PySem.Spec PyProof.Rows L2
theorem scAns : FnScope ["places", "arrows", "numbers", "begin", "end"] ["places", "arrows"] (defScope sAns) := ⟨rfl, rfl, rfl, by decide +kernel, rfl, by decide +kernel, by decide +kernel⟩
def spAns : Sp := fun vs H Q _ => ∃ (n : Int) (a : Addr) (us : List V) (ps : List (Int × Int)), vs = [.int n, .ref a] ∧ H a = some (.lst us) ∧ TPs H us ps ∧ ps.length ≤ 10000 ∧
  ∀ (H' : Hp) (p : Addr), H' p = some (.lst ((told n ps).map V.int)) → Q (.ref p) H'
section
variable {P : Program} {w : World} {K : PySem.W.Frag} {mg : Str → Option Value} {base : Heap}
theorem ok_ans {f : Addr} {fd : FuncData} {k : Nat} (F : Fun K "answer" "answer" sAns f fd) (ml : mg "len" = none) : FnOk P w K mg base CX0 (k + 1) f fd ["places", "arrows"] spAns := by
  refine F.ok scAns (fun vs H Q E h => ?_) (fun cdv A outer s H vs Q E hr h => ?_)
  · obtain ⟨n, a, us, ps, rfl, _⟩ := h
    rfl
  · obtain ⟨n, a, us, ps, rfl, hS, ht, hlen, q⟩ := h
    refine ⟨_, pss_cons (ps_set (i := 2) scAns.nd rfl (.inl rfl) (pe_lst (pa_cons (pv 0) (pa_cons (pe_callB call_len_seq (by rfl) ml PySem.boot_len (pa_cons (pv 1) pa_nil)) pa_nil))))
      (pss_cons (ps_for PassesOwn.never rfl (pi_list (pv 1)) (pg_tup rfl (pgs_cons (pg_name (i := 3) scAns.nd rfl (.inl rfl)) (pgs_cons (pg_name (i := 4) scAns.nd rfl (.inl rfl)) pgs_nil)))
        (pss_one (ps_expr (pe_bm PySem.F.plainAttrs_list PySem.F.slot_list_extend PySem.F.type_list_extend mt_extend (pv 2) (pa_cons (pe_lst (pa_cons (pv 3) (pa_cons (pv 4) pa_nil))) pa_nil)))))
      (pss_one (ps_ret (pv 2)))), ?_⟩
    have hl := ht.len
    refine ⟨.int n, rfl, .ref a, rfl, a, us, rfl, .inl (SqL.of hS), (by show 2 ≤ sizeLine; decide), fun o no => ?_⟩
    have s1 : Same H (upd H o (.lst [.int n, .int us.length])) := same_upd no
    refine ⟨.ref a, rfl, a, rfl, ⟨_, SqL.of (s1 _ _ hS)⟩, for_list (K := K) (a := a) (xs := us) (fun i σ H1 => ∃ y3 y4, σ = [some (.int n), some (.ref a), some (.ref o), y3, y4] ∧ Same H H1 ∧ H1 o = some (.lst ((n :: (us.length : Int) :: flat (ps.take i)).map V.int)))
      ⟨none, none, rfl, s1, upd_same⟩ (fun i σ H1 _ h1 => by
        obtain ⟨_, _, _, s2, _⟩ := h1
        exact SqL.of (s2 _ _ hS)) ?_ ?_⟩
    · rintro i x σ H1 hx ⟨y3, y4, rfl, s2, e2⟩
      obtain ⟨t, p, rfl, hp, kt⟩ := ht.at hx
      refine ⟨t, [.int p.1, .int p.2], rfl, SqT.of (s2 _ _ kt), rfl, .int p.1, [.int p.2], rfl, .int p.2, [], rfl, rfl, ?_⟩
      refine ⟨.ref o, rfl, .inl ⟨rfl, _, SqL.of e2⟩, .int p.1, rfl, .int p.2, rfl, (by show 2 ≤ sizeLine; decide), fun b nb => ?_⟩
      have eo : (upd H1 b (.lst [.int p.1, .int p.2])) o = some (.lst ((n :: (us.length : Int) :: flat (ps.take i)).map V.int)) := by
        rw [upd_ne (ne_of_none e2 nb)]
        exact e2
      refine ⟨o, b, _, _, rfl, rfl, eo, upd_same, ?_, ?_⟩
      · have fl : ∀ l : List (Int × Int), (flat l).length = 2 * l.length := fun l => by
          unfold flat
          induction l with
          | nil => rfl
          | cons c r ih =>
            rw [List.flatMap_cons, List.length_append, ih, List.length_cons, List.length_cons, List.length_cons, List.length_nil]
            omega
        have h3 : i < ps.length := (List.getElem?_eq_some_iff.mp hp).1
        have h4 : ((n :: (us.length : Int) :: flat (ps.take i)).map V.int).length = 2 + 2 * i := by
          rw [List.length_map, List.length_cons, List.length_cons, fl, List.length_take]
          omega
        rw [h4]
        exact Nat.le_of_lt (small_n (by show 2 + 2 * i + 2 ≤ 1000000; omega))
      · refine ⟨some (.int p.1), some (.int p.2), rfl, same_at (s2.trans (same_upd nb)) no, ?_⟩
        rw [upd_same, take_more hp]
        have ef : flat (ps.take i ++ [p]) = flat (ps.take i) ++ [p.1, p.2] := by
          unfold flat
          rw [List.flatMap_append]
          rfl
        rw [ef]
        simp only [List.map_cons, List.map_append, List.cons_append, List.map_nil]
    · rintro σ H1 ⟨y3, y4, rfl, s2, e2⟩
      rw [List.take_of_length_le (by omega), hl] at e2
      exact ⟨.ref o, rfl, q H1 o e2⟩
end
end Gt
namespace Gt
open PySem PySem.Spec PyProof.Rows L2
theorem scTur : FnScope ["n", "first", "u", "v"] ["n", "first"] (defScope sTur) := ⟨rfl, rfl, rfl, by decide +kernel, rfl, by decide +kernel, by decide +kernel⟩
def spTur (K : PySem.W.Frag) : Sp := fun vs H Q _ => ∃ (n : Int) (a : Addr) (ns : List Int), vs = [.int n, .ref a] ∧ SqL K H a (ns.map V.int) ∧ ns.length ≤ 60 ∧
  (isG n ns = false → ∀ (H' : Hp) (p : Addr), H' p = some (.lst [.int (-22)]) → Q (.ref p) H') ∧
  (isG n ns = true → ∀ (H' : Hp) (p : Addr) (ys : List (Int × Int)), ys.Perm ((prs ns).map swp) → ys.Pairwise (fun p q => ltB q p = false) → H' p = some (.lst ((told n ys).map V.int)) → Q (.ref p) H')
section
variable {P : Program} {w : World} {K : PySem.W.Frag} {mg : Str → Option Value} {base : Heap}
theorem ok_tur {f fG fR fA fS : Addr} {fd fdG fdR fdA fdS : FuncData} {t0 t1 : Tok} (F : Fun K "turned" "turned" sTur f fd)
    (FG : Fun K "is_graph" "is_graph" sIsG fG fdG) (bG : Binds K fdG ["places", "told"] []) (gG : mg "is_graph" = some (.ref fG))
    (FR : Fun K "is_rising" "is_rising" sRis fR fdR) (bR : Binds K fdR ["arrows"] []) (gR : mg "is_rising" = some (.ref fR))
    (FA : Fun K "arrows_of" "arrows_of" sArr fA fdA) (bA : Binds K fdA ["told"] []) (gA : mg "arrows_of" = some (.ref fA))
    (FS : Fun K "answer" "answer" sAns fS fdS) (bS : Binds K fdS ["places", "arrows"] []) (gS : mg "answer" = some (.ref fS))
    (gP : mg "MOST_PLACES" = some (.int (5) t0))
    (gN : mg "NO_GRAPH" = some (.int (-22) t1))
    (mr : mg "range" = none) (ml : mg "len" = none) (ma : mg "all" = none) (ms' : mg "sorted" = none) :
    FnOk P w K mg base CX0 3 f fd ["n", "first"] (spTur K) := by
  have GA : FnOk P w K mg base CX0 2 fA fdA ["told"] (spArr K) := ok_arr FA mr ml
  have GG : FnOk P w K mg base CX0 2 fG fdG ["places", "told"] (spIsG K) := ok_isg (k := 0) FG FA bA gA FR bR gR gP mr ml ma
  have GS : FnOk P w K mg base CX0 2 fS fdS ["places", "arrows"] spAns := ok_ans FS ml
  refine F.ok scTur (fun vs H Q E h => ?_) (fun cdv A outer s H vs Q E hr h => ?_)
  · obtain ⟨n, a, ns, rfl, _⟩ := h
    rfl
  · obtain ⟨n, a, ns, rfl, hA, la, qno, q⟩ := h
    refine ⟨_, pss_cons (ps_if (pt_not (pt_val (pe_call GG hr (by rfl) gG FG.kp bG .nil pass0 (pa_cons (pv 0) (pa_cons (pv 1) pa_nil)))))
        (pss_one (ps_ret (pe_lst (pa_cons (pe_glob (v := .int (-22)) (by rfl) gN ⟨_, rfl⟩) pa_nil)))) pss_nil)
      (pss_one (ps_ret (pe_call GS hr (by rfl) gS FS.kp bS .nil pass0 (pa_cons (pv 0) (pa_cons (pe_callB cr_sortedPO (by rfl) ms' (by decide +kernel)
        (pa_cons (pe_lc (own := [("u", 2), ("v", 3)]) (g := gTup K 2 (gCons (gName 2) (gCons (gName 3) gNil))) (tt := tYes) rfl scTur.nd (pi_list (pe_call GA hr (by rfl) gA FA.kp bA .nil pass0 (pa_cons (pv 1) pa_nil)))
          (blkOk_by (N := ["n", "first", "u", "v"]) (sc := defScope sTur) (by decide +kernel)) (fun _ _ _ _ _ => pg_tup rfl (pgs_cons (pg_name (i := 2) scTur.nd rfl (Or.inl rfl)) (pgs_cons (pg_name (i := 3) scTur.nd rfl (Or.inl rfl)) pgs_nil))) (fun _ _ _ _ _ => pts_nil)
          (fun _ _ _ _ _ => pe_tup (pa_cons (pv 3) (pa_cons (pv 2) pa_nil)))) pa_nil)) pa_nil))))), ?_⟩
    refine ⟨.int n, rfl, .ref a, rfl, n, a, ns, rfl, hA, by omega, fun H1 s1 => ⟨_, rfl, ite2 (fun c1 => ?_) (fun c1 => ?_)⟩⟩
    · have e : isG n ns = false := by
        cases z : isG n ns with
        | false => rfl
        | true =>
          rw [z] at c1
          cases c1
      exact ⟨(by show 1 ≤ sizeLine; decide), fun p _ => qno e _ p upd_same⟩
    · have e : isG n ns = true := by
        cases z : isG n ns with
        | true => rfl
        | false =>
          rw [z] at c1
          exact absurd rfl c1
      have evA := (isG_iff.mp e).2.1
      -- answer(n, sorted([(v, u) for u, v in arrows_of(first)]))
      refine ⟨.int n, rfl, ?_⟩
      refine ⟨.ref a, rfl, a, ns, rfl, s1.seq hA, by omega, evA, fun H3 p us s3 np e3 t3 => ?_⟩
      refine ⟨p, rfl, ⟨_, SqL.of e3⟩, fun D nD => ?_⟩
      refine lc_list (K := K) (a := p) (xs := us) (fun i H4 => Same H3 H4 ∧ ∃ ws, H4 D = some (.lst ws) ∧ TPs H4 ws (((prs ns).take i).map swp)) ⟨same_upd nD, [], upd_same, by rw [List.take_zero]; exact .nil⟩ (fun i H4 _ h4 => SqL.of (h4.1 _ _ e3)) ?_ ?_
      · rintro i x H4 hx ⟨s4, ws, e4, t4⟩
        obtain ⟨t, pr, rfl, hp, kt⟩ := t3.at hx
        refine ⟨t, [.int pr.1, .int pr.2], rfl, SqT.of (s4 _ _ kt), rfl, .int pr.1, [.int pr.2], rfl, .int pr.2, [], rfl, rfl, rfl, ?_⟩
        refine ⟨.int pr.2, rfl, .int pr.1, rfl, (by show 2 ≤ sizeLine; decide), fun T nT => ?_⟩
        have eD : (upd H4 T (.tup [.int pr.2, .int pr.1])) D = some (.lst ws) := by
          rw [upd_ne (ne_of_none e4 nT)]
          exact e4
        refine ⟨ws, eD, ?_, same_at (s4.trans (same_upd nT)) nD, _, upd_same, ?_⟩
        · rw [t4.len, List.length_map, List.length_take, prs_len]
          exact small_n (by omega)
        · rw [take_more hp, List.map_append]
          refine ((t4.mono (KT.new nT)).mono (KT.lst eD)).app (TPs.one (p := swp pr) ?_)
          exact KT.lst eD _ _ upd_same
      · rintro H4 ⟨s4, ws, e4, t4⟩
        rw [t3.len, List.take_length] at t4
        refine ⟨D, ws, kOf H4, rfl, SqL.of e4, t4.mem, fun ys p9 hs hb np9 => ?_⟩
        have ty : TPs H4 ys (ys.map (kOf H4)) := TPs.of_mem ys fun x hx => t4.mem x (hb.perm.mem_iff.mp hx)
        have pm : (ys.map (kOf H4)).Perm ((prs ns).map swp) := by
          have := hb.perm.map (kOf H4)
          rw [t4.map] at this
          exact this
        refine ⟨n, p9, ys, ys.map (kOf H4), rfl, upd_same, ty.mono (KT.new np9), ?_, fun H10 p10 e10 => q e H10 p10 _ pm ?_ e10⟩
        · rw [pm.length_eq, List.length_map, prs_len]
          omega
        · exact List.pairwise_map.mpr hs
end
theorem all_mk {P : Program} {w : World} {K : PySem.W.Frag} {h : Heap} {mg : Str → Option Value} {fa f1 f2 f3 f4 f5 : Addr} {t0 t1 : Tok} (X : K.In h) (G : h.Ns mainGlobals mg) (hfa : mg "turned" = some (.ref fa))
    {od1 an1 od2 an2 od3 an3 od4 an4 od5 an5 : Option Addr} {sl1 sl2 sl3 sl4 sl5 : Array (Option Value)} {oc1 kV1 dc1 pm1 cd1 ct1 oc2 kV2 dc2 pm2 cd2 ct2 oc3 kV3 dc3 pm3 cd3 ct3 oc4 kV4 dc4 pm4 cd4 ct4 oc5 kV5 dc5 pm5 cd5 ct5 : Value}
    (a1 : PySem.W.nsIn K mainGlobals "turned" = some (some (.ref f1))) (l1 : K.lookup f1 = some ⟨oc1, od1, .func (PySem.W.fnOf "turned" "turned" (defArgs sTur) (defBody sTur) (defScope sTur) .none kV1 dc1 pm1 an1 cd1 ct1), sl1⟩) (c1 : PySem.W.codeIn K cd1 "turned" = true) (k1 : PySem.W.keepIn K (.ref f1) = true)
    (a2 : PySem.W.nsIn K mainGlobals "is_graph" = some (some (.ref f2))) (l2 : K.lookup f2 = some ⟨oc2, od2, .func (PySem.W.fnOf "is_graph" "is_graph" (defArgs sIsG) (defBody sIsG) (defScope sIsG) .none kV2 dc2 pm2 an2 cd2 ct2), sl2⟩) (c2 : PySem.W.codeIn K cd2 "is_graph" = true) (k2 : PySem.W.keepIn K (.ref f2) = true)
    (a3 : PySem.W.nsIn K mainGlobals "is_rising" = some (some (.ref f3))) (l3 : K.lookup f3 = some ⟨oc3, od3, .func (PySem.W.fnOf "is_rising" "is_rising" (defArgs sRis) (defBody sRis) (defScope sRis) .none kV3 dc3 pm3 an3 cd3 ct3), sl3⟩) (c3 : PySem.W.codeIn K cd3 "is_rising" = true) (k3 : PySem.W.keepIn K (.ref f3) = true)
    (a4 : PySem.W.nsIn K mainGlobals "arrows_of" = some (some (.ref f4))) (l4 : K.lookup f4 = some ⟨oc4, od4, .func (PySem.W.fnOf "arrows_of" "arrows_of" (defArgs sArr) (defBody sArr) (defScope sArr) .none kV4 dc4 pm4 an4 cd4 ct4), sl4⟩) (c4 : PySem.W.codeIn K cd4 "arrows_of" = true) (k4 : PySem.W.keepIn K (.ref f4) = true)
    (a5 : PySem.W.nsIn K mainGlobals "answer" = some (some (.ref f5))) (l5 : K.lookup f5 = some ⟨oc5, od5, .func (PySem.W.fnOf "answer" "answer" (defArgs sAns) (defBody sAns) (defScope sAns) .none kV5 dc5 pm5 an5 cd5 ct5), sl5⟩) (c5 : PySem.W.codeIn K cd5 "answer" = true) (k5 : PySem.W.keepIn K (.ref f5) = true)
    (gq0 : PySem.W.nsIn K mainGlobals "MOST_PLACES" = some (some (.int (5) t0)))
    (gq1 : PySem.W.nsIn K mainGlobals "NO_GRAPH" = some (some (.int (-22) t1)))
    (zq0 : PySem.W.nsIn K mainGlobals "range" = some none)
    (zq1 : PySem.W.nsIn K mainGlobals "len" = some none)
    (zq2 : PySem.W.nsIn K mainGlobals "all" = some none)
    (zq3 : PySem.W.nsIn K mainGlobals "sorted" = some none) :
    ∃ fd : FuncData, (∀ (s : Shared) (us : List Value), us.length = (["n", "first"] : List Str).length → BindsTo s fd ⟨us, []⟩ ((["n", "first"] : List Str).zip us)) ∧ ∀ base : Heap, K.In base → base.Ns mainGlobals mg → FnOk P w K mg base CX0 3 fa fd ["n", "first"] (spTur K) := by
  have e := hfa.symm.trans (PySem.W.mg_of X G a1)
  cases e
  have F1 := fun_mk (st := sTur) l1 c1 k1
  have F2 := fun_mk (st := sIsG) l2 c2 k2
  have F3 := fun_mk (st := sRis) l3 c3 k3
  have F4 := fun_mk (st := sArr) l4 c4 k4
  have F5 := fun_mk (st := sAns) l5 c5 k5
  have b2 := F2.binds (ps := ["places", "told"]) fun _ _ _ _ _ _ us hl => match us, hl with | [_, _], _ => rfl
  have b3 := F3.binds (ps := ["arrows"]) fun _ _ _ _ _ _ us hl => match us, hl with | [_], _ => rfl
  have b4 := F4.binds (ps := ["told"]) fun _ _ _ _ _ _ us hl => match us, hl with | [_], _ => rfl
  have b5 := F5.binds (ps := ["places", "arrows"]) fun _ _ _ _ _ _ us hl => match us, hl with | [_, _], _ => rfl
  exact ⟨_, fun s us hu => match us, hu with | [_, _], _ => .of_eq rfl, fun base _ _ => ok_tur F1 F2 b2 (PySem.W.mg_of X G a2) F3 b3 (PySem.W.mg_of X G a3) F4 b4 (PySem.W.mg_of X G a4) F5 b5 (PySem.W.mg_of X G a5)
    (PySem.W.mg_of X G gq0) (PySem.W.mg_of X G gq1) (PySem.W.mg_none_of X G zq0) (PySem.W.mg_none_of X G zq1) (PySem.W.mg_none_of X G zq2) (PySem.W.mg_none_of X G zq3)⟩
end Gt
open PySem PySem.W PyProof.Rows
set_option maxRecDepth 100000 in
set_option maxHeartbeats 8000000 in
theorem PySem.Challenge.cw_graphstogether_s04_turned_holds : PySem.Challenge.rw_graphstogether_s04_turned.Holds := by
  w_on; k_headS; (case hw => exact ⟨[.int 0, .list []], by decide +kernel, by decide +kernel⟩)
  k_fillS
  refine L2.walk_specK (r := PySem.Challenge.rw_graphstogether_s04_turned) (k := 3) (CX := L2.CX0) (ps := ["n", "first"]) (sp := Gt.spTur) (by decide +kernel) rfl rfl ⟨rfl, by decide, by decide⟩ (fun w h Y => PySem.W.kIn_of Y) ?F ?S (fun _ _ _ _ z => z)
  case F =>
    intro w mg fa h Y KX G hmg
    refine' Gt.all_mk KX G hmg ?a1 ?l1 ?c1 ?k1 ?a2 ?l2 ?c2 ?k2 ?a3 ?l3 ?c3 ?k3 ?a4 ?l4 ?c4 ?k4 ?a5 ?l5 ?c5 ?k5 ?gq0 ?gq1 ?zq0 ?zq1 ?zq2 ?zq3
    (case a1 => k_is); (case l1 => k_is); (case c1 => k_is); (case k1 => k_is)
    (case a2 => k_is); (case l2 => k_is); (case c2 => k_is); (case k2 => k_is)
    (case a3 => k_is); (case l3 => k_is); (case c3 => k_is); (case k3 => k_is)
    (case a4 => k_is); (case l4 => k_is); (case c4 => k_is); (case k4 => k_is)
    (case a5 => k_is); (case l5 => k_is); (case c5 => k_is); (case k5 => k_is)
    (case gq0 => k_is); (case gq1 => k_is); (case zq0 => k_is); (case zq1 => k_is)
    (case zq2 => k_is); (case zq3 => k_is)
  case S =>
    intro K H xs a hO hwi hask hx
    obtain ⟨n, ns, u⟩ := a
    have q : (Codec.inInt 0 4294967295 n && ((Codec.inLen 0 60 ns && ns.all (Codec.inInt 0 4294967295)) && true)) = true := hwi
    simp only [Bool.and_eq_true, List.all_eq_true, Codec.inInt_iff] at q
    obtain ⟨q1, ⟨q3, q4⟩, _⟩ := q
    cases hx with
    | cons h1 h2 =>
      cases h2 with
      | cons h2 h3 =>
        cases h3
        cases h1 with
        | int =>
          cases h2 with
          | lst hs3 ha3 =>
            have e3 := L2.ints_dw ns _ ha3
            subst e3
            have p4 : ∀ x ∈ ns, 0 ≤ x := fun x hx => (q4 x hx).1
            refine ⟨n, _, ns, rfl, hs3, (Codec.inNat_iff.mp q3).2, fun g H' p hp => ?_, fun g1 H' p ys hp hy e => ?_⟩
            · show L2.Dw K H' (.ref p) (.list ((PyKs549.turned n ns).map WData.int))
              rw [Gt.turned_no q1.1 p4 g]
              exact .lst (L2.SqL.of hp) (L2.dw_ints [-22])
            · show L2.Dw K H' (.ref p) (.list ((PyKs549.turned n ns).map WData.int))
              rw [Gt.turned_eq p4 g1 hp hy]
              exact .lst (L2.SqL.of e) (L2.dw_ints _)
#print axioms PySem.Challenge.cw_graphstogether_s04_turned_holds
