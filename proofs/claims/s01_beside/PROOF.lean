import PyProof.Rows.All
import Wide.All
import OpenK.AllK
import Wide.FinOn
import PyProof.EqAt
import PyProof.EqKinds
import PyProof.TupleCall
import Open.SpecLaws
import KE.OsGo
import HandS.ForSpec
import HandS.Comp
import HandS.Iter
import HandS.Walk
import HandS.SortRule
import PySem.Challenge.RW_graphstogether_s01_beside
set_option Elab.async false
set_option maxRecDepth 100000
set_option maxHeartbeats 2000000
namespace Gt
/-! ### plain functions of the program -/
def prs : List Int → List (Int × Int)
  | u :: v :: l => (u, v) :: prs l
  | _ => []
def ltB (p q : Int × Int) : Bool := if p.1 = q.1 then decide (p.2 < q.2) else decide (p.1 < q.1)
def rise : List (Int × Int) → Bool
  | p :: q :: r => ltB p q && rise (q :: r)
  | _ => true
def isG (n : Int) (l : List Int) : Bool :=
  if n < 1 ∨ 5 < n ∨ l.length % 2 ≠ 0 then false else (l.all fun x => decide (x < n)) && rise (prs l)
def flat (ps : List (Int × Int)) : List Int := ps.flatMap fun p => [p.1, p.2]
def told (n : Int) (ps : List (Int × Int)) : List Int := n :: (ps.length : Int) :: flat ps
def shift (n : Int) (p : Int × Int) : Int × Int := (n + p.1, n + p.2)
def besideM (n m : Int) (f s : List Int) : List Int :=
  if (isG n f && isG m s) = true then told (n + m) (prs f ++ (prs s).map (shift n)) else [-22]
def tn (p : Int × Int) : Nat × Nat := (p.1.toNat, p.2.toNat)
def ti (p : Nat × Nat) : Int × Int := ((p.1 : Int), (p.2 : Int))

theorem ltB_iff {p q : Int × Int} : ltB p q = true ↔ p.1 < q.1 ∨ (p.1 = q.1 ∧ p.2 < q.2) := by
  unfold ltB
  split <;> simp <;> omega
theorem prs_nn : ∀ (l : List Int), (∀ x ∈ l, 0 ≤ x) → ∀ p ∈ prs l, 0 ≤ p.1 ∧ 0 ≤ p.2
  | [], _, p, h => by simp [prs] at h
  | [_], _, p, h => by simp [prs] at h
  | u :: v :: l, hl, p, h => by
    simp only [prs, List.mem_cons] at h
    rcases h with rfl | h
    · exact ⟨hl u (by simp), hl v (by simp)⟩
    · exact prs_nn l (fun x hx => hl x (by simp [hx])) p h
theorem prs_lt {n : Int} : ∀ (l : List Int), (∀ x ∈ l, x < n) → ∀ p ∈ prs l, p.1 < n ∧ p.2 < n
  | [], _, p, h => by simp [prs] at h
  | [_], _, p, h => by simp [prs] at h
  | u :: v :: l, hl, p, h => by
    simp only [prs, List.mem_cons] at h
    rcases h with rfl | h
    · exact ⟨hl u (by simp), hl v (by simp)⟩
    · exact prs_lt l (fun x hx => hl x (by simp [hx])) p h
theorem prs_len : ∀ (l : List Int), (prs l).length = l.length / 2
  | [] => rfl
  | [_] => by simp [prs]
  | u :: v :: l => by
    simp only [prs, List.length_cons, prs_len l]
    omega
theorem tn_lt {n u : Int} (hn : 0 ≤ n) (hu : 0 ≤ u) : n.toNat ≤ u.toNat ↔ n ≤ u := by omega

theorem pairsOf_eq {n : Int} (hn : 0 ≤ n) : ∀ (l : List Int), (∀ x ∈ l, 0 ≤ x) →
    Ks547.pairsOf n.toNat (l.map Int.toNat) = if (l.length % 2 = 0 ∧ (∀ x ∈ l, x < n) ∧ rise (prs l) = true) then some ((prs l).map tn) else none
  | [], _ => by simp [Ks547.pairsOf, prs, rise]
  | [x], _ => by simp [Ks547.pairsOf]
  | u :: v :: l, h => by
    have hu : 0 ≤ u := h u (by simp)
    have hv : 0 ≤ v := h v (by simp)
    have hl : ∀ x ∈ l, 0 ≤ x := fun x hx => h x (by simp [hx])
    have ih := pairsOf_eq hn l hl
    simp only [List.map_cons, Ks547.pairsOf, tn_lt hn hu, tn_lt hn hv, ih]
    by_cases c1 : n ≤ u ∨ n ≤ v
    · rw [if_pos c1, if_neg]
      rintro ⟨_, h2, _⟩
      have a := h2 u (by simp)
      have b := h2 v (by simp)
      omega
    · rw [if_neg c1]
      by_cases c2 : (l.length % 2 = 0 ∧ (∀ x ∈ l, x < n) ∧ rise (prs l) = true)
      · rw [if_pos c2]
        obtain ⟨d1, d2, d3⟩ := c2
        have e1 : (u :: v :: l).length % 2 = 0 := by
          simp only [List.length_cons]
          omega
        have e2 : ∀ x ∈ u :: v :: l, x < n := by
          intro x hx
          simp only [List.mem_cons] at hx
          rcases hx with rfl | rfl | hx
          · omega
          · omega
          · exact d2 x hx
        have nn := prs_nn l hl
        cases hp : prs l with
        | nil =>
          simp only [List.map_nil]
          rw [if_pos ⟨e1, e2, by simp [prs, hp, rise]⟩]
          simp [prs, hp, tn]
        | cons p r =>
          have pn := nn p (by simp [hp])
          simp only [List.map_cons, tn]
          rw [hp] at d3
          have ec : (u.toNat < p.1.toNat ∨ (u.toNat = p.1.toNat ∧ v.toNat < p.2.toNat)) ↔ ltB (u, v) p = true := by
            rw [ltB_iff]
            simp only
            omega
          by_cases c3 : ltB (u, v) p = true
          · rw [if_pos (ec.mpr c3), if_pos ⟨e1, e2, by simp [prs, hp, rise, c3, d3]⟩]
            simp [prs, hp, tn]
          · rw [if_neg (fun z => c3 (ec.mp z)), if_neg]
            rintro ⟨_, _, h3⟩
            simp only [prs, hp, rise, Bool.and_eq_true] at h3
            exact c3 h3.1
      · rw [if_neg c2, if_neg]
        rintro ⟨h1, h2, h3⟩
        refine c2 ⟨?_, fun x hx => h2 x (by simp [hx]), ?_⟩
        · simp only [List.length_cons] at h1
          omega
        · simp only [prs] at h3
          cases hp : prs l with
          | nil => rfl
          | cons p r =>
            rw [hp] at h3
            simp only [rise, Bool.and_eq_true] at h3
            exact h3.2

theorem isG_iff {n : Int} {l : List Int} : isG n l = true ↔ (1 ≤ n ∧ n ≤ 5) ∧ l.length % 2 = 0 ∧ (∀ x ∈ l, x < n) ∧ rise (prs l) = true := by
  unfold isG
  split
  · rename_i h
    simp only [Bool.false_eq_true, false_iff]
    rintro ⟨⟨_, _⟩, _, _⟩
    omega
  · rename_i h
    simp only [Bool.and_eq_true, List.all_eq_true, decide_eq_true_eq]
    constructor
    · rintro ⟨a, b⟩
      exact ⟨by omega, by omega, a, b⟩
    · rintro ⟨_, _, a, b⟩
      exact ⟨a, b⟩
def mkG (n : Int) (l : List Int) : Ks547.Graph := ⟨n.toNat, (prs l).map tn⟩
theorem graphOf_eq {n : Int} {l : List Int} (hn : 0 ≤ n) (hl : ∀ x ∈ l, 0 ≤ x) :
    Ks547.graphOf n.toNat (l.map Int.toNat) = if isG n l = true then some (mkG n l) else none := by
  unfold Ks547.graphOf
  rw [pairsOf_eq hn l hl]
  by_cases c : n.toNat < 1 ∨ Ks547.PLACES < n.toNat
  · rw [if_pos c, if_neg]
    intro z
    have := (isG_iff.mp z).1
    unfold Ks547.PLACES at c
    omega
  · rw [if_neg c]
    unfold Ks547.PLACES at c
    by_cases d : (l.length % 2 = 0 ∧ (∀ x ∈ l, x < n) ∧ rise (prs l) = true)
    · rw [if_pos d, if_pos (isG_iff.mpr ⟨by omega, d⟩)]
      rfl
    · rw [if_neg d, if_neg (fun z => d (isG_iff.mp z).2)]
      rfl
theorem tell_out (n : Nat) (ps : List (Nat × Nat)) : Ks549Neutral.out (Ks549.tell ⟨n, ps⟩) = told n (ps.map ti) := by
  unfold Ks549Neutral.out Ks549.tell told flat
  simp only [List.map_cons, List.length_map]
  congr 2
  induction ps with
  | nil => rfl
  | cons p r ih =>
    simp only [List.flatMap_cons, List.map_append, List.map_cons, ih]
    rfl
theorem ti_tn {ps : List (Int × Int)} (h : ∀ p ∈ ps, 0 ≤ p.1 ∧ 0 ≤ p.2) : (ps.map tn).map ti = ps := by
  rw [List.map_map]
  have : ps.map (ti ∘ tn) = ps.map id := by
    refine List.map_congr_left fun p hp => ?_
    have := h p hp
    show ((p.1.toNat : Int), (p.2.toNat : Int)) = p
    rw [Int.toNat_of_nonneg this.1, Int.toNat_of_nonneg this.2]
  rw [this, List.map_id]
theorem two_eq {n m : Int} {f s : List Int} (hn : 0 ≤ n) (hm : 0 ≤ m) (hf : ∀ x ∈ f, 0 ≤ x) (hs : ∀ x ∈ s, 0 ≤ x) (k : Ks547.Graph → Ks547.Graph → Ks547.Ans) :
    Ks547.two n.toNat m.toNat (f.map Int.toNat) (s.map Int.toNat) k = if (isG n f && isG m s) = true then k (mkG n f) (mkG m s) else Ks547.no (-22) := by
  unfold Ks547.two Ks547.graph
  rw [graphOf_eq hn hf]
  by_cases a : isG n f = true
  · simp only [graphOf_eq hm hs, a, Bool.true_and, if_true]
    by_cases b : isG m s = true
    · simp only [if_pos b]
    · simp only [if_neg b]
  · simp only [if_neg a]
    rw [if_neg]
    simp [a]
theorem beside_eq {n m : Int} {f s : List Int} (hn : 0 ≤ n) (hm : 0 ≤ m) (hf : ∀ x ∈ f, 0 ≤ x) (hs : ∀ x ∈ s, 0 ≤ x) : PyKs549.beside n m f s = besideM n m f s := by
  show Ks549Neutral.out (Ks547.two n.toNat m.toNat (f.map Int.toNat) (s.map Int.toNat) fun g h => Ks549.tell (Ks549.beside g h)) = _
  rw [two_eq hn hm hf hs]
  unfold besideM
  split
  · unfold Ks549.beside
    rw [tell_out]
    congr 1
    · show ((n.toNat + m.toNat : Nat) : Int) = n + m
      omega
    · show ((prs f).map tn ++ ((prs s).map tn).map fun p => (n.toNat + p.1, n.toNat + p.2)).map ti = _
      rw [List.map_append, ti_tn (prs_nn f hf)]
      congr 1
      rw [List.map_map, List.map_map]
      refine List.map_congr_left fun p hp => ?_
      have := prs_nn s hs p hp
      show (((n.toNat + p.1.toNat : Nat) : Int), ((n.toNat + p.2.toNat : Nat) : Int)) = (n + p.1, n + p.2)
      congr 1 <;> omega
  · rfl
end Gt
namespace Gt
theorem nt1 {b : Bool} (h : (!b) = true) : b = false := by
  cases b with
  | false => rfl
  | true => cases h
theorem nt2 {b : Bool} (h : ¬ (!b) = true) : b = true := by
  cases b with
  | true => rfl
  | false => exact absurd rfl h
end Gt
/-! ### heaps, lists of pairs, ranges: for any program -/
namespace Gt
open PySem PySem.Spec PyProof.Rows L2
theorem small_n {n : Nat} (h : n ≤ 1000000) : n < sizeLine := Nat.lt_of_le_of_lt h (by decide)
theorem same_upd {H : Hp} {D : Addr} {o : HO} (new : H D = none) : Same H (upd H D o) := fun b x e => (upd_ne (ne_of_none e new)).trans e
/-- what was ahead of D stays, whatever D holds -/
theorem same_at {H H' : Hp} {D : Addr} {o : HO} (s : Same H H') (h : H D = none) : Same H (upd H' D o) := fun b x e => by
  rw [upd_ne (ne_of_none e h)]
  exact s b x e
/-- tuples stay -/
def KT (H H' : Hp) : Prop := ∀ t xs, H t = some (.tup xs) → H' t = some (.tup xs)
theorem KT.trans {H H1 H2 : Hp} (a : KT H H1) (b : KT H1 H2) : KT H H2 := fun t xs e => b t xs (a t xs e)
theorem KT.of {H H' : Hp} (s : Same H H') : KT H H' := fun t xs e => s t _ e
theorem KT.lst {H : Hp} {D : Addr} {l : List V} {o : HO} (h : H D = some (.lst l)) : KT H (upd H D o) := fun t xs e => by
  rw [upd_ne (ne_of e h (by intro z; cases z))]
  exact e
theorem KT.new {H : Hp} {D : Addr} {o : HO} (h : H D = none) : KT H (upd H D o) := .of (same_upd h)
/-- vs are pairs of ints, the ints ps -/
inductive TPs (H : Hp) : List V → List (Int × Int) → Prop
  | nil : TPs H [] []
  | cons {t : Addr} {vs : List V} {p : Int × Int} {ps : List (Int × Int)} : H t = some (.tup [.int p.1, .int p.2]) → TPs H vs ps → TPs H (.ref t :: vs) (p :: ps)
theorem TPs.mono {H H' : Hp} (k : KT H H') : ∀ {vs : List V} {ps : List (Int × Int)}, TPs H vs ps → TPs H' vs ps
  | _, _, .nil => .nil
  | _, _, .cons e r => .cons (k _ _ e) (TPs.mono k r)
theorem TPs.len {H : Hp} : ∀ {vs : List V} {ps : List (Int × Int)}, TPs H vs ps → vs.length = ps.length
  | _, _, .nil => rfl
  | _, _, .cons _ r => by rw [List.length_cons, List.length_cons, TPs.len r]
theorem TPs.app {H : Hp} : ∀ {vs us : List V} {ps qs : List (Int × Int)}, TPs H vs ps → TPs H us qs → TPs H (vs ++ us) (ps ++ qs)
  | _, _, _, _, .nil, b => b
  | _, _, _, _, .cons e r, b => .cons e (TPs.app r b)
theorem TPs.one {H : Hp} {t : Addr} {p : Int × Int} (e : H t = some (.tup [.int p.1, .int p.2])) : TPs H [.ref t] [p] := .cons e .nil
theorem TPs.get {H : Hp} : ∀ {vs : List V} {ps : List (Int × Int)} {i : Nat} {p : Int × Int}, TPs H vs ps → ps[i]? = some p → ∃ t, vs[i]? = some (.ref t) ∧ H t = some (.tup [.int p.1, .int p.2])
  | _, _, i, p, .nil, h => by simp at h
  | _, _, 0, p, .cons (t := t) e r, h => by
    cases Option.some.inj h
    exact ⟨t, rfl, e⟩
  | _, _, i + 1, p, .cons e r, h => TPs.get r (i := i) h
theorem TPs.at {H : Hp} {vs : List V} {ps : List (Int × Int)} {i : Nat} {v : V} (h : TPs H vs ps) (e : vs[i]? = some v) : ∃ t p, v = .ref t ∧ ps[i]? = some p ∧ H t = some (.tup [.int p.1, .int p.2]) := by
  have hi : i < ps.length := by
    rw [← h.len]
    exact (List.getElem?_eq_some_iff.mp e).1
  obtain ⟨t, e1, e2⟩ := h.get (List.getElem?_eq_getElem hi)
  rw [e] at e1
  exact ⟨t, _, Option.some.inj e1, List.getElem?_eq_getElem hi, e2⟩
theorem take_more {α : Type} {l : List α} {i : Nat} {x : α} (h : l[i]? = some x) : l.take (i + 1) = l.take i ++ [x] := by
  rw [List.take_add_one, h]
  rfl
theorem fits {i : Int} (h1 : -1000 ≤ i) (h2 : i ≤ 100000) : Builtin.Range.rangeFitsLong i = true := by
  unfold Builtin.Range.rangeFitsLong
  rw [Bool.and_eq_true]
  exact ⟨decide_eq_true (by omega), decide_eq_true (by omega)⟩
/-- range(0, n, 2) of an even n -/
theorem rg_two {n : Nat} (hn : n ≤ 1000) (he : n % 2 = 0) : RgC 0 (n : Int) 2 (n / 2) := by
  have e : Builtin.Range.rangeSize 0 (n : Int) 2 = ((n / 2 : Nat) : Int) := by
    unfold Builtin.Range.rangeSize
    rw [if_pos (by decide)]
    split <;> omega
  refine ⟨by decide, by decide, ?_, e⟩
  unfold Builtin.Range.small
  rw [e]
  have f1 := fits (i := 0) (by decide) (by decide)
  have f2 := fits (i := 2) (by decide) (by decide)
  have f3 := fits (i := (n : Int)) (by omega) (by omega)
  have f4 := fits (i := ((n / 2 : Nat) : Int)) (by omega) (by omega)
  have f5 := fits (i := (n : Int) + (2 - 1)) (by omega) (by omega)
  rw [if_pos (show (2 : Int) > 0 by decide)]
  rw [f1, f2, f3, f4, f5]
  cases ((n / 2 : Nat) : Int) == 0 <;> rfl
theorem lex2 (p q : Int × Int) : HT.lexLt [p.1, p.2] [q.1, q.2] = ltB p q := by
  rw [HT.lexLt_cons, HT.lexLt_cons, HT.lexLt_nil_nil]
  unfold ltB
  split
  · split
    · rename_i h
      rw [h]
      simp
    · rfl
  · rfl
theorem prs_get : ∀ {l : List Int} {i : Nat} {u v : Int}, l[2 * i]? = some u → l[2 * i + 1]? = some v → (prs l)[i]? = some (u, v)
  | [], _, _, _, h, _ => by simp at h
  | [_], 0, _, _, _, h => by simp at h
  | [_], i + 1, _, _, h, _ => by simp [Nat.mul_add] at h
  | a :: b :: l, 0, u, v, h1, h2 => by
    cases Option.some.inj h1
    cases Option.some.inj h2
    rfl
  | a :: b :: l, i + 1, u, v, h1, h2 => by
    have e : 2 * (i + 1) = 2 * i + 1 + 1 := by omega
    rw [e] at h1 h2
    exact prs_get (l := l) (i := i) h1 h2
/-- the truths of «each is greater than the one ahead of it», by place -/
def upTo (ps : List (Int × Int)) (i : Nat) : List Bool := (List.range i).map fun j => ltB (ps.getD j (0, 0)) (ps.getD (j + 1) (0, 0))
theorem upTo_more (ps : List (Int × Int)) (i : Nat) : upTo ps (i + 1) = upTo ps i ++ [ltB (ps.getD i (0, 0)) (ps.getD (i + 1) (0, 0))] := by
  unfold upTo
  rw [List.range_succ, List.map_append]
  rfl
theorem upTo_all : ∀ (ps : List (Int × Int)), (upTo ps (ps.length - 1)).all id = rise ps
  | [] => rfl
  | [_] => rfl
  | p :: q :: r => by
    have ih := upTo_all (q :: r)
    unfold upTo at ih ⊢
    have e : (p :: q :: r).length - 1 = ((q :: r).length - 1) + 1 := by
      simp only [List.length_cons]
      omega
    rw [e, List.range_succ_eq_map, List.map_cons, List.all_cons, List.map_map]
    show (ltB p q && _) = (ltB p q && rise (q :: r))
    rw [← ih]
    rfl
end Gt
/-! ### the text -/
namespace Gt
open PySem PySem.Spec PyProof.Rows L2
def topS (i : Nat) : Stmt := PySem.Challenge.pw_graphstogether_s01_beside.main.body.getD i (.Pass ⟨0, 0, 0, 0⟩)
abbrev sBes : Stmt := topS 3
abbrev sIsG : Stmt := topS 5
abbrev sRis : Stmt := topS 6
abbrev sArr : Stmt := topS 7
abbrev sAns : Stmt := topS 8
abbrev sABe : Stmt := topS 4
end Gt
/-! ### the defs that all calls share -/
namespace Gt
open PySem PySem.Spec PyProof.Rows L2
theorem scArr : FnScope ["told", "k"] ["told"] (defScope sArr) := ⟨rfl, rfl, rfl, by decide +kernel, rfl, by decide +kernel, by decide +kernel⟩
theorem scRis : FnScope ["arrows", "k"] ["arrows"] (defScope sRis) := ⟨rfl, rfl, rfl, by decide +kernel, rfl, by decide +kernel, by decide +kernel⟩
theorem scIsG : FnScope ["places", "told", "place"] ["places", "told"] (defScope sIsG) := ⟨rfl, rfl, rfl, by decide +kernel, rfl, by decide +kernel, by decide +kernel⟩
def spArr (K : PySem.W.Frag) : Sp := fun vs H Q _ => ∃ (a : Addr) (ns : List Int), vs = [.ref a] ∧ SqL K H a (ns.map V.int) ∧ ns.length ≤ 1000 ∧ ns.length % 2 = 0 ∧
  ∀ (H' : Hp) (p : Addr) (us : List V), Same H H' → H p = none → H' p = some (.lst us) → TPs H' us (prs ns) → Q (.ref p) H'
def spRis : Sp := fun vs H Q _ => ∃ (a : Addr) (us : List V) (ps : List (Int × Int)), vs = [.ref a] ∧ H a = some (.lst us) ∧ TPs H us ps ∧ ps.length ≤ 1000 ∧
  ∀ H' : Hp, Same H H' → Q (.bl (rise ps)) H'
def spIsG (K : PySem.W.Frag) : Sp := fun vs H Q _ => ∃ (n : Int) (a : Addr) (ns : List Int), vs = [.int n, .ref a] ∧ SqL K H a (ns.map V.int) ∧ ns.length ≤ 1000 ∧
  ∀ H' : Hp, Same H H' → Q (.bl (isG n ns)) H'
section
variable {P : Program} {w : World} {K : PySem.W.Frag} {mg : Str → Option Value} {base : Heap}
theorem ok_arr {f : Addr} {fd : FuncData} {k : Nat} (F : Fun K "arrows_of" "arrows_of" sArr f fd) (mr : mg "range" = none) (ml : mg "len" = none) : FnOk P w K mg base CX0 (k + 1) f fd ["told"] (spArr K) := by
  refine F.ok scArr (fun vs H Q E h => ?_) (fun cdv A outer s H vs Q E hr h => ?_)
  · obtain ⟨a, ns, rfl, _⟩ := h
    rfl
  · obtain ⟨a, ns, rfl, hS, hlen, hev, q⟩ := h
    refine ⟨_, pss_one (ps_ret (pe_lc (own := [("k", 1)]) (g := gName 1) (tt := tYes) rfl scArr.nd
      (pi_range3 (by rfl) mr (pa_cons pe_int (pa_cons (pe_callB call_len_seq (by rfl) ml PySem.boot_len (pa_cons (pv 0) pa_nil)) (pa_cons pe_int pa_nil))))
      (blkOk_by (N := ["told", "k"]) (sc := defScope sArr) (by decide +kernel)) (fun _ _ _ _ _ => pg_name (i := 1) scArr.nd rfl (Or.inl rfl)) (fun _ _ _ _ _ => pts_nil)
      (fun _ _ _ _ _ => pe_tup (pa_cons (pe_ix (r := rIxL K) ix_list (pv 0) (pv 1) (fun _ _ => rfl)) (pa_cons (pe_ix (r := rIxL K) ix_list (pv 0) (pe_op op_add (pv 1) pe_int) (fun _ _ => rfl)) pa_nil))))), ?_⟩
    have hl2 : ((ns.map V.int).length : Int) = (ns.length : Int) := by rw [List.length_map]
    refine ⟨.ref a, rfl, a, ns.map V.int, rfl, .inl hS, 0, ((ns.map V.int).length : Int), 2, ns.length / 2, rfl, hl2 ▸ rg_two hlen hev, fun D nD => ?_⟩
    refine lc_it (walk_rangeC (lo := 0) (c := 2) (n := ns.length / 2)) (fun i H1 => Same H H1 ∧ ∃ us, H1 D = some (.lst us) ∧ TPs H1 us ((prs ns).take i)) ⟨same_upd nD, [], upd_same, by rw [List.take_zero]; exact .nil⟩ (fun _ _ _ _ => trivial) ?_ ?_
    · rintro i x H0 H1 hi ⟨s1, us, e1, t1⟩ ⟨e0, rfl⟩
      subst e0
      have h1 : 2 * i < ns.length := by omega
      have h2 : 2 * i + 1 < ns.length := by omega
      have g1 : (ns.map V.int)[2 * i]? = some (.int ns[2 * i]) := by
        rw [List.getElem?_map, List.getElem?_eq_getElem h1]
        rfl
      have g2 : (ns.map V.int)[2 * i + 1]? = some (.int ns[2 * i + 1]) := by
        rw [List.getElem?_map, List.getElem?_eq_getElem h2]
        rfl
      have gp : (prs ns)[i]? = some (ns[2 * i], ns[2 * i + 1]) := prs_get (List.getElem?_eq_getElem h1) (List.getElem?_eq_getElem h2)
      have hA : SqL K H1 a (ns.map V.int) := s1.seq hS
      refine ⟨rfl, ?_⟩
      refine ⟨.ref a, rfl, .int (0 + (i : Nat) * 2), rfl, a, _, 0 + (i : Nat) * 2, .int ns[2 * i], rfl, rfl, hA, at_of (j := 2 * i) (by omega) g1, ?_⟩
      refine ⟨.ref a, rfl, .int (0 + (i : Nat) * 2), rfl, 0 + (i : Nat) * 2, 1, rfl, rfl, a, _, 0 + (i : Nat) * 2 + 1, .int ns[2 * i + 1], rfl, rfl, hA, at_of (j := 2 * i + 1) (by omega) g2, ?_⟩
      refine ⟨(by show 2 ≤ sizeLine; decide), fun T nT => ?_⟩
      have nDT : D ≠ T := ne_of_none e1 nT
      have eD : (upd H1 T (.tup [.int ns[2 * i], .int ns[2 * i + 1]])) D = some (.lst us) := by
        rw [upd_ne nDT]
        exact e1
      refine ⟨us, eD, ?_, ?_⟩
      · rw [t1.len, List.length_take, prs_len]
        exact small_n (by omega)
      · refine ⟨same_at (s1.trans (same_upd nT)) nD, _, upd_same, ?_⟩
        rw [take_more gp]
        refine ((t1.mono (KT.new nT)).mono (KT.lst eD)).app (TPs.one ?_)
        exact KT.lst eD _ _ upd_same
    · rintro H1 ⟨s1, us, e1, t1⟩
      rw [List.take_of_length_le (by rw [prs_len]; exact Nat.le_refl _)] at t1
      exact q H1 D us s1 nD e1 t1
theorem ok_ris {f : Addr} {fd : FuncData} {k : Nat} (F : Fun K "is_rising" "is_rising" sRis f fd) (mr : mg "range" = none) (ml : mg "len" = none) (ma : mg "all" = none) : FnOk P w K mg base CX0 (k + 1) f fd ["arrows"] spRis := by
  refine F.ok scRis (fun vs H Q E h => ?_) (fun cdv A outer s H vs Q E hr h => ?_)
  · obtain ⟨a, us, ps, rfl, _⟩ := h
    rfl
  · obtain ⟨a, us, ps, rfl, hS, ht, hlen, q⟩ := h
    refine ⟨_, pss_one (ps_ret (pe_callB (cr_all rfl) (by rfl) ma (by decide +kernel) (pa_cons (pe_lc (own := [("k", 1)]) (g := gName 1) (tt := tYes) rfl scRis.nd
      (pi_range2 (by rfl) mr (pa_cons pe_int (pa_cons (pe_callB call_len_seq (by rfl) ml PySem.boot_len (pa_cons (pv 0) pa_nil)) pa_nil)))
      (blkOk_by (N := ["arrows", "k"]) (sc := defScope sRis) (by decide +kernel)) (fun _ _ _ _ _ => pg_name (i := 1) scRis.nd rfl (Or.inl rfl)) (fun _ _ _ _ _ => pts_nil)
      (fun _ _ _ _ _ => pe_cmpR (r := rLtT K) (op_ltT hr.units0) (pe_ix (r := rIxL K) ix_list (pv 0) (pe_op op_sub (pv 1) pe_int) (fun _ _ => rfl)) (pe_ix (r := rIxL K) ix_list (pv 0) (pv 1) (fun _ _ => rfl)) (nomark _))) pa_nil))), ?_⟩
    have hl := ht.len
    refine ⟨.ref a, rfl, a, us, rfl, .inl (SqL.of hS), 1, (us.length : Int), rfl, ⟨by decide, by decide, by omega, by omega⟩, fun D nD => ?_⟩
    have nn : ((us.length : Int) - 1).toNat = ps.length - 1 := by omega
    rw [nn]
    refine lc_range (fun i H1 => Same H H1 ∧ H1 D = some (.lst ((upTo ps i).map V.bl))) ⟨same_upd nD, upd_same⟩ ?_ ?_
    · rintro i H1 hi ⟨s1, e1⟩
      have h1 : i < ps.length := by omega
      have h2 : i + 1 < ps.length := by omega
      obtain ⟨t, g1, k1⟩ := ht.get (List.getElem?_eq_getElem h1)
      obtain ⟨t', g2, k2⟩ := ht.get (List.getElem?_eq_getElem h2)
      have hA : SqL K H1 a us := SqL.of (s1 _ _ hS)
      refine ⟨rfl, ?_⟩
      refine ⟨.ref a, rfl, .int (1 + (i : Nat)), rfl, 1 + (i : Nat), 1, rfl, rfl, a, _, 1 + (i : Nat) - 1, .ref t, rfl, rfl, hA, at_of (j := i) (by omega) g1, ?_⟩
      refine ⟨.ref a, rfl, .int (1 + (i : Nat)), rfl, a, _, 1 + (i : Nat), .ref t', rfl, rfl, hA, at_of (j := i + 1) (by omega) g2, ?_⟩
      refine ⟨t, t', [ps[i].1, ps[i].2], [ps[i + 1].1, ps[i + 1].2], rfl, rfl, SqT.of (s1 _ _ k1), SqT.of (s1 _ _ k2), _, e1, ?_, ?_⟩
      · rw [List.length_map]
        unfold upTo
        rw [List.length_map, List.length_range]
        exact small_n (by omega)
      · refine ⟨same_at s1 nD, ?_⟩
        rw [upd_same, lex2, upTo_more, List.map_append, List.getD_eq_getElem?_getD, List.getD_eq_getElem?_getD, List.getElem?_eq_getElem h1, List.getElem?_eq_getElem h2]
        rfl
    · rintro H1 ⟨s1, e1⟩
      refine ⟨D, _, rfl, SqL.of e1, ?_⟩
      rw [upTo_all]
      exact q H1 s1
theorem ok_isg {f fA fR : Addr} {fd fdA fdR : FuncData} {k : Nat} {t5 : Tok} (F : Fun K "is_graph" "is_graph" sIsG f fd) (FA : Fun K "arrows_of" "arrows_of" sArr fA fdA) (bA : Binds K fdA ["told"] []) (gA : mg "arrows_of" = some (.ref fA))
    (FR : Fun K "is_rising" "is_rising" sRis fR fdR) (bR : Binds K fdR ["arrows"] []) (gR : mg "is_rising" = some (.ref fR)) (gM : mg "MOST_PLACES" = some (.int 5 t5)) (mr : mg "range" = none) (ml : mg "len" = none) (ma : mg "all" = none) :
    FnOk P w K mg base CX0 (k + 2) f fd ["places", "told"] (spIsG K) := by
  have GA : FnOk P w K mg base CX0 (k + 1) fA fdA ["told"] (spArr K) := ok_arr FA mr ml
  have GR : FnOk P w K mg base CX0 (k + 1) fR fdR ["arrows"] spRis := ok_ris FR mr ml ma
  refine F.ok scIsG (fun vs H Q E h => ?_) (fun cdv A outer s H vs Q E hr h => ?_)
  · obtain ⟨n, a, ns, rfl, _⟩ := h
    rfl
  · obtain ⟨n, a, ns, rfl, hS, hlen, q⟩ := h
    refine ⟨_, pss_cons (ps_if (pw_or (pt_cmpR op_lt (pv 0) pe_int (nomark _)) (pw_or (pt_cmpR op_gt (pv 0) (pe_glob (v := .int 5) (by rfl) gM ⟨_, rfl⟩) (nomark _))
        (pw_or1 (pt_cmpR op_ne (pe_op op_mod (pe_callB call_len_seq (by rfl) ml PySem.boot_len (pa_cons (pv 1) pa_nil)) pe_int) pe_int (nomark _))))).pt
        (pss_one (ps_ret pe_bl)) pss_nil)
      (pss_one (ps_ret (pe_and (pe_callB (cr_all rfl) (by rfl) ma (by decide +kernel) (pa_cons (pe_lc (own := [("place", 2)]) (g := gName 2) (tt := tYes) rfl scIsG.nd (pi_list (pv 1))
          (blkOk_by (N := ["places", "told", "place"]) (sc := defScope sIsG) (by decide +kernel)) (fun _ _ _ _ _ => pg_name (i := 2) scIsG.nd rfl (Or.inl rfl)) (fun _ _ _ _ _ => pts_nil)
          (fun _ _ _ _ _ => pe_cmpR op_lt (pv 2) (pv 0) (nomark _))) pa_nil))
        (pe_one (pe_call GR hr (by rfl) gR FR.kp bR .nil pass0 (pa_cons (pe_call GA hr (by rfl) gA FA.kp bA .nil pass0 (pa_cons (pv 1) pa_nil)) pa_nil)))))), ?_⟩
    -- places < 1
    refine ⟨.int n, rfl, n, 1, rfl, rfl, _, rfl, ite2 (fun c => ?_) (fun c => ?_)⟩
    · refine iteT ?_
      have e : isG n ns = false := by
        unfold isG
        rw [if_pos (.inl (of_decide_eq_true c))]
      exact e ▸ q H (Same.refl H)
    -- places > MOST_PLACES
    · refine ⟨.int n, rfl, n, 5, rfl, rfl, _, rfl, ite2 (fun c2 => ?_) (fun c2 => ?_)⟩
      · refine iteT ?_
        have e : isG n ns = false := by
          unfold isG
          rw [if_pos (.inr (.inl (of_decide_eq_true c2)))]
        exact e ▸ q H (Same.refl H)
      -- len(told) % 2 != 0
      · refine ⟨.ref a, rfl, a, ns.map V.int, rfl, .inl hS, ((ns.map V.int).length : Int), 2, rfl, rfl, (by show (0 : Int) < 2; decide), rfl, _, rfl, ite2 (fun c3 => ?_) (fun c3 => ?_)⟩
        · have od : ns.length % 2 ≠ 0 := by
            intro z
            have c5 : (!decide (V.int (((ns.map V.int).length : Int) % 2) = V.int 0)) = true := c3
            rw [List.length_map, show ((ns.length : Int) % 2) = 0 by omega, decide_eq_true rfl] at c5
            cases c5
          have e : isG n ns = false := by
            unfold isG
            rw [if_pos (.inr (.inr od))]
          exact e ▸ q H (Same.refl H)
        · have ev : ns.length % 2 = 0 := by
            rw [List.length_map] at c3
            simp only [Bool.not_eq_true', decide_eq_false_iff_not, Classical.not_not] at c3
            have := V.int.inj c3
            omega
          have n1 : ¬ (n < 1 ∨ 5 < n ∨ ns.length % 2 ≠ 0) := by
            simp only [decide_eq_true_eq] at c c2
            omega
          -- all([place < places for place in told])
          refine ⟨.ref a, rfl, a, rfl, ⟨_, hS⟩, fun D nD => ?_⟩
          refine lc_list (K := K) (a := a) (xs := ns.map V.int) (fun i H1 => Same H H1 ∧ H1 D = some (.lst (((ns.take i).map fun x => decide (x < n)).map V.bl))) ⟨same_upd nD, upd_same⟩ (fun i H1 _ h1 => h1.1.seq hS) ?_ ?_
          · rintro i x H1 hx ⟨s1, e1⟩
            rw [List.getElem?_map] at hx
            obtain ⟨z, hz, rfl⟩ := Option.map_eq_some_iff.mp hx
            refine ⟨rfl, ?_⟩
            refine ⟨.int z, rfl, .int n, rfl, z, n, rfl, rfl, _, e1, ?_, same_at s1 nD, ?_⟩
            · rw [List.length_map, List.length_map, List.length_take]
              exact small_n (by omega)
            · rw [upd_same, take_more hz, List.map_append, List.map_append]
              rfl
          · rintro H1 ⟨s1, e1⟩
            rw [List.length_map, List.take_length] at e1
            refine ⟨D, _, rfl, SqL.of e1, _, rfl, ite2 (fun c4 => ?_) (fun c4 => ?_)⟩
            · -- is_rising(arrows_of(told))
              refine ⟨.ref a, rfl, a, ns, rfl, s1.seq hS, hlen, ev, fun H2 p us s2 _ e2 t2 => ?_⟩
              refine ⟨p, us, _, rfl, e2, t2, by rw [prs_len]; omega, fun H3 s3 => ?_⟩
              have e : isG n ns = rise (prs ns) := by
                unfold isG
                rw [if_neg n1]
                rw [List.all_map] at c4
                rw [show (ns.all fun x => decide (x < n)) = true from c4, Bool.true_and]
              exact e ▸ q H3 (s1.trans (s2.trans s3))
            · have e : isG n ns = false := by
                unfold isG
                rw [if_neg n1]
                rw [List.all_map] at c4
                rw [show (ns.all fun x => decide (x < n)) = false from Bool.eq_false_iff.mpr c4, Bool.false_and]
              exact e ▸ q H1 s1
end
end Gt
/-! ### answer -/
namespace Gt
open PySem PySem.Spec PyProof.Rows L2
theorem scAns : FnScope ["places", "arrows", "numbers", "begin", "end"] ["places", "arrows"] (defScope sAns) := ⟨rfl, rfl, rfl, by decide +kernel, rfl, by decide +kernel, by decide +kernel⟩
def spAns : Sp := fun vs H Q _ => ∃ (n : Int) (a : Addr) (us : List V) (ps : List (Int × Int)), vs = [.int n, .ref a] ∧ H a = some (.lst us) ∧ TPs H us ps ∧ ps.length ≤ 10000 ∧
  ∀ (H' : Hp) (p : Addr), H' p = some (.lst ((told n ps).map V.int)) → Q (.ref p) H'
section
variable {P : Program} {w : World} {K : PySem.W.Frag} {mg : Str → Option Value} {base : Heap}
theorem ok_ans {f : Addr} {fd : FuncData} {k : Nat} (F : Fun K "answer" "answer" sAns f fd) (ml : mg "len" = none) : FnOk P w K mg base CX0 (k + 1) f fd ["places", "arrows"] spAns := by
  refine F.ok scAns (fun vs H Q E h => ?_) (fun cdv A outer s H vs Q E hr h => ?_)
  · obtain ⟨n, a, us, ps, rfl, _⟩ := h
    rfl
  · obtain ⟨n, a, us, ps, rfl, hS, ht, hlen, q⟩ := h
    refine ⟨_, pss_cons (ps_set (i := 2) scAns.nd rfl (.inl rfl) (pe_lst (pa_cons (pv 0) (pa_cons (pe_callB call_len_seq (by rfl) ml PySem.boot_len (pa_cons (pv 1) pa_nil)) pa_nil))))
      (pss_cons (ps_for PassesOwn.never rfl (pi_list (pv 1)) (pg_tup rfl (pgs_cons (pg_name (i := 3) scAns.nd rfl (.inl rfl)) (pgs_cons (pg_name (i := 4) scAns.nd rfl (.inl rfl)) pgs_nil)))
        (pss_one (ps_expr (pe_bm PySem.F.plainAttrs_list PySem.F.slot_list_extend PySem.F.type_list_extend mt_extend (pv 2) (pa_cons (pe_lst (pa_cons (pv 3) (pa_cons (pv 4) pa_nil))) pa_nil)))))
      (pss_one (ps_ret (pv 2)))), ?_⟩
    have hl := ht.len
    refine ⟨.int n, rfl, .ref a, rfl, a, us, rfl, .inl (SqL.of hS), (by show 2 ≤ sizeLine; decide), fun o no => ?_⟩
    have s1 : Same H (upd H o (.lst [.int n, .int us.length])) := same_upd no
    refine ⟨.ref a, rfl, a, rfl, ⟨_, SqL.of (s1 _ _ hS)⟩, for_list (K := K) (a := a) (xs := us) (fun i σ H1 => ∃ y3 y4, σ = [some (.int n), some (.ref a), some (.ref o), y3, y4] ∧ Same H H1 ∧ H1 o = some (.lst ((n :: (us.length : Int) :: flat (ps.take i)).map V.int)))
      ⟨none, none, rfl, s1, upd_same⟩ (fun i σ H1 _ h1 => by
        obtain ⟨_, _, _, s2, _⟩ := h1
        exact SqL.of (s2 _ _ hS)) ?_ ?_⟩
    · rintro i x σ H1 hx ⟨y3, y4, rfl, s2, e2⟩
      obtain ⟨t, p, rfl, hp, kt⟩ := ht.at hx
      refine ⟨t, [.int p.1, .int p.2], rfl, SqT.of (s2 _ _ kt), rfl, .int p.1, [.int p.2], rfl, .int p.2, [], rfl, rfl, ?_⟩
      refine ⟨.ref o, rfl, .inl ⟨rfl, _, SqL.of e2⟩, .int p.1, rfl, .int p.2, rfl, (by show 2 ≤ sizeLine; decide), fun b nb => ?_⟩
      have eo : (upd H1 b (.lst [.int p.1, .int p.2])) o = some (.lst ((n :: (us.length : Int) :: flat (ps.take i)).map V.int)) := by
        rw [upd_ne (ne_of_none e2 nb)]
        exact e2
      refine ⟨o, b, _, _, rfl, rfl, eo, upd_same, ?_, ?_⟩
      · have fl : ∀ l : List (Int × Int), (flat l).length = 2 * l.length := fun l => by
          unfold flat
          induction l with
          | nil => rfl
          | cons c r ih =>
            rw [List.flatMap_cons, List.length_append, ih, List.length_cons, List.length_cons, List.length_cons, List.length_nil]
            omega
        have h3 : i < ps.length := (List.getElem?_eq_some_iff.mp hp).1
        have h4 : ((n :: (us.length : Int) :: flat (ps.take i)).map V.int).length = 2 + 2 * i := by
          rw [List.length_map, List.length_cons, List.length_cons, fl, List.length_take]
          omega
        rw [h4]
        exact Nat.le_of_lt (small_n (by show 2 + 2 * i + 2 ≤ 1000000; omega))
      · refine ⟨some (.int p.1), some (.int p.2), rfl, same_at (s2.trans (same_upd nb)) no, ?_⟩
        rw [upd_same, take_more hp]
        have ef : flat (ps.take i ++ [p]) = flat (ps.take i) ++ [p.1, p.2] := by
          unfold flat
          rw [List.flatMap_append]
          rfl
        rw [ef]
        simp only [List.map_cons, List.map_append, List.cons_append, List.map_nil]
    · rintro σ H1 ⟨y3, y4, rfl, s2, e2⟩
      rw [List.take_of_length_le (by omega), hl] at e2
      exact ⟨.ref o, rfl, q H1 o e2⟩
end
end Gt
/-! ### arrows_beside -/
namespace Gt
open PySem PySem.Spec PyProof.Rows L2
theorem scABe : FnScope ["n", "one", "other", "u", "v"] ["n", "one", "other"] (defScope sABe) := ⟨rfl, rfl, rfl, by decide +kernel, rfl, by decide +kernel, by decide +kernel⟩
def spABe : Sp := fun vs H Q _ => ∃ (n : Int) (a b : Addr) (ua ub : List V) (A B : List (Int × Int)), vs = [.int n, .ref a, .ref b] ∧ H a = some (.lst ua) ∧ TPs H ua A ∧ H b = some (.lst ub) ∧ TPs H ub B ∧ A.length ≤ 1000 ∧ B.length ≤ 1000 ∧
  ∀ (H' : Hp) (p : Addr) (us : List V), Same H H' → H' p = some (.lst us) → TPs H' us (A ++ B.map (shift n)) → Q (.ref p) H'
section
variable {P : Program} {w : World} {K : PySem.W.Frag} {mg : Str → Option Value} {base : Heap}
theorem ok_abe {f : Addr} {fd : FuncData} {k : Nat} (F : Fun K "arrows_beside" "arrows_beside" sABe f fd) : FnOk P w K mg base CX0 (k + 1) f fd ["n", "one", "other"] spABe := by
  refine F.ok scABe (fun vs H Q E h => ?_) (fun cdv A outer s H vs Q E hr h => ?_)
  · obtain ⟨n, a, b, ua, ub, A, B, rfl, _⟩ := h
    rfl
  · obtain ⟨n, a, b, ua, ub, A, B, rfl, ha, ta, hb, tb, la, lb, q⟩ := h
    refine ⟨_, pss_one (ps_ret (pe_op op_cat (pv 1) (pe_lc (own := [("u", 3), ("v", 4)]) (g := gTup K 2 (gCons (gName 3) (gCons (gName 4) gNil))) (tt := tYes) rfl scABe.nd (pi_list (pv 2))
      (blkOk_by (N := ["n", "one", "other", "u", "v"]) (sc := defScope sABe) (by decide +kernel)) (fun _ _ _ _ _ => pg_tup rfl (pgs_cons (pg_name (i := 3) scABe.nd rfl (Or.inl rfl)) (pgs_cons (pg_name (i := 4) scABe.nd rfl (Or.inl rfl)) pgs_nil))) (fun _ _ _ _ _ => pts_nil)
      (fun _ _ _ _ _ => pe_tup (pa_cons (pe_op op_add (pv 0) (pv 3)) (pa_cons (pe_op op_add (pv 0) (pv 4)) pa_nil)))))), ?_⟩
    refine ⟨.ref a, rfl, .ref b, rfl, b, rfl, ⟨_, SqL.of hb⟩, fun D nD => ?_⟩
    refine lc_list (K := K) (a := b) (xs := ub) (fun i H4 => Same H H4 ∧ ∃ ws, H4 D = some (.lst ws) ∧ TPs H4 ws ((B.take i).map (shift n))) ⟨same_upd nD, [], upd_same, by rw [List.take_zero]; exact .nil⟩ (fun i H4 _ h4 => SqL.of (h4.1 _ _ hb)) ?_ ?_
    · rintro i x H4 hx ⟨s4, ws, e4, t4⟩
      obtain ⟨t, pr, rfl, hp, kt⟩ := tb.at hx
      refine ⟨t, [.int pr.1, .int pr.2], rfl, SqT.of (s4 _ _ kt), rfl, .int pr.1, [.int pr.2], rfl, .int pr.2, [], rfl, rfl, rfl, ?_⟩
      refine ⟨.int n, rfl, .int pr.1, rfl, n, pr.1, rfl, rfl, .int n, rfl, .int pr.2, rfl, n, pr.2, rfl, rfl, (by show 2 ≤ sizeLine; decide), fun T nT => ?_⟩
      have eD : (upd H4 T (.tup [.int (n + pr.1), .int (n + pr.2)])) D = some (.lst ws) := by
        rw [upd_ne (ne_of_none e4 nT)]
        exact e4
      refine ⟨ws, eD, ?_, same_at (s4.trans (same_upd nT)) nD, _, upd_same, ?_⟩
      · rw [t4.len, List.length_map, List.length_take]
        exact small_n (by omega)
      · rw [take_more hp, List.map_append]
        refine ((t4.mono (KT.new nT)).mono (KT.lst eD)).app (TPs.one (p := shift n pr) ?_)
        exact KT.lst eD _ _ upd_same
    · rintro H4 ⟨s4, ws, e4, t4⟩
      rw [tb.len, List.take_length] at t4
      refine ⟨a, D, ua, ws, rfl, rfl, s4 _ _ ha, e4, ?_, fun p6 np6 => ?_⟩
      · rw [ta.len, t4.len, List.length_map]
        exact Nat.le_of_lt (small_n (by omega))
      · exact q _ p6 (ua ++ ws) (s4.trans (same_upd np6)) upd_same (((ta.mono (KT.of s4)).app t4).mono (KT.new np6))
end
end Gt
namespace Gt
open PySem PySem.Spec PyProof.Rows L2
theorem scBes : FnScope ["n", "m", "first", "second"] ["n", "m", "first", "second"] (defScope sBes) := ⟨rfl, rfl, rfl, by decide +kernel, rfl, by decide +kernel, by decide +kernel⟩
def spBes (K : PySem.W.Frag) : Sp := fun vs H Q _ => ∃ (n m : Int) (a b : Addr) (ns ms : List Int), vs = [.int n, .int m, .ref a, .ref b] ∧ SqL K H a (ns.map V.int) ∧ SqL K H b (ms.map V.int) ∧ ns.length ≤ 60 ∧ ms.length ≤ 60 ∧
  ∀ (H' : Hp) (p : Addr), H' p = some (.lst ((besideM n m ns ms).map V.int)) → Q (.ref p) H'
section
variable {P : Program} {w : World} {K : PySem.W.Frag} {mg : Str → Option Value} {base : Heap}
theorem ok_bes {f fG fR fA fS fD : Addr} {fd fdG fdR fdA fdS fdD : FuncData} {t0 t1 : Tok} (F : Fun K "beside" "beside" sBes f fd)
    (FG : Fun K "is_graph" "is_graph" sIsG fG fdG) (bG : Binds K fdG ["places", "told"] []) (gG : mg "is_graph" = some (.ref fG))
    (FR : Fun K "is_rising" "is_rising" sRis fR fdR) (bR : Binds K fdR ["arrows"] []) (gR : mg "is_rising" = some (.ref fR))
    (FA : Fun K "arrows_of" "arrows_of" sArr fA fdA) (bA : Binds K fdA ["told"] []) (gA : mg "arrows_of" = some (.ref fA))
    (FS : Fun K "answer" "answer" sAns fS fdS) (bS : Binds K fdS ["places", "arrows"] []) (gS : mg "answer" = some (.ref fS))
    (FD : Fun K "arrows_beside" "arrows_beside" sABe fD fdD) (bD : Binds K fdD ["n", "one", "other"] []) (gD : mg "arrows_beside" = some (.ref fD))
    (gP : mg "MOST_PLACES" = some (.int (5) t0))
    (gN : mg "NO_GRAPH" = some (.int (-22) t1))
    (mr : mg "range" = none) (ml : mg "len" = none) (ma : mg "all" = none) :
    FnOk P w K mg base CX0 3 f fd ["n", "m", "first", "second"] (spBes K) := by
  have GG : FnOk P w K mg base CX0 2 fG fdG ["places", "told"] (spIsG K) := ok_isg (k := 0) FG FA bA gA FR bR gR gP mr ml ma
  have GA : FnOk P w K mg base CX0 2 fA fdA ["told"] (spArr K) := ok_arr FA mr ml
  have GS : FnOk P w K mg base CX0 2 fS fdS ["places", "arrows"] spAns := ok_ans FS ml
  have GD : FnOk P w K mg base CX0 2 fD fdD ["n", "one", "other"] spABe := ok_abe FD
  refine F.ok scBes (fun vs H Q E h => ?_) (fun cdv A outer s H vs Q E hr h => ?_)
  · obtain ⟨n, m, a, b, ns, ms, rfl, _⟩ := h
    rfl
  · obtain ⟨n, m, a, b, ns, ms, rfl, hA, hB, la, lb, q⟩ := h
    refine ⟨_, pss_cons (ps_if (pt_not (pw_and (pt_val (pe_call GG hr (by rfl) gG FG.kp bG .nil pass0 (pa_cons (pv 0) (pa_cons (pv 2) pa_nil)))) (pw_and1 (pt_val (pe_call GG hr (by rfl) gG FG.kp bG .nil pass0 (pa_cons (pv 1) (pa_cons (pv 3) pa_nil)))))).pt)
        (pss_one (ps_ret (pe_lst (pa_cons (pe_glob (v := .int (-22)) (by rfl) gN ⟨_, rfl⟩) pa_nil)))) pss_nil)
      (pss_one (ps_ret (pe_call GS hr (by rfl) gS FS.kp bS .nil pass0 (pa_cons (pe_op op_add (pv 0) (pv 1)) (pa_cons (pe_call GD hr (by rfl) gD FD.kp bD .nil pass0 (pa_cons (pv 0) (pa_cons (pe_call GA hr (by rfl) gA FA.kp bA .nil pass0 (pa_cons (pv 2) pa_nil)) (pa_cons (pe_call GA hr (by rfl) gA FA.kp bA .nil pass0 (pa_cons (pv 3) pa_nil)) pa_nil)))) pa_nil))))), ?_⟩
    have no : (isG n ns && isG m ms) = false → ∀ (H1 : Hp), ∀ p, H1 p = none → Q (.ref p) (upd H1 p (.lst [.int (-22)])) := fun e H1 p _ => by
      refine q _ p ?_
      rw [upd_same]
      unfold besideM
      rw [if_neg (by rw [e]; decide)]
      rfl
    refine ⟨.int n, rfl, .ref a, rfl, n, a, ns, rfl, hA, by omega, fun H1 s1 => ⟨_, rfl, ite2 (fun c1 => ?_) (fun c1 => iteT ⟨(by show 1 ≤ sizeLine; decide), no (by rw [Bool.eq_false_iff.mpr c1, Bool.false_and]) H1⟩)⟩⟩
    refine ⟨.int m, rfl, .ref b, rfl, m, b, ms, rfl, s1.seq hB, by omega, fun H2 s2 => ⟨_, rfl, ite2 (fun c2 => ⟨(by show 1 ≤ sizeLine; decide), no (by rw [nt1 c2, Bool.and_false]) H2⟩) (fun c2 => ?_)⟩⟩
    have e : isG m ms = true := nt2 c2
    have n5 := (isG_iff.mp c1).1
    have m5 := (isG_iff.mp e).1
    have evA := (isG_iff.mp c1).2.1
    have evB := (isG_iff.mp e).2.1
    have s12 := s1.trans s2
    -- answer(n + m, arrows_beside(n, arrows_of(first), arrows_of(second)))
    refine ⟨.int n, rfl, .int m, rfl, n, m, rfl, rfl, .int n, rfl, ?_⟩
    refine ⟨.ref a, rfl, a, ns, rfl, s12.seq hA, by omega, evA, fun H4 p4 us4 s4 _ e4 t4 => ?_⟩
    refine ⟨.ref b, rfl, b, ms, rfl, (s12.trans s4).seq hB, by omega, evB, fun H5 p5 us5 s5 _ e5 t5 => ?_⟩
    refine ⟨n, p4, p5, us4, us5, prs ns, prs ms, rfl, s5 _ _ e4, t4.mono (KT.of s5), e5, t5, by rw [prs_len]; omega, by rw [prs_len]; omega, fun H6 p6 us6 _ e6 t6 => ?_⟩
    refine ⟨n + m, p6, us6, prs ns ++ (prs ms).map (shift n), rfl, e6, t6, ?_, fun H7 p7 e7 => q H7 p7 ?_⟩
    · rw [List.length_append, List.length_map, prs_len, prs_len]
      omega
    · unfold besideM
      rw [if_pos (by rw [c1, e]; rfl)]
      exact e7
end
theorem all_mk {P : Program} {w : World} {K : PySem.W.Frag} {h : Heap} {mg : Str → Option Value} {fa f1 f2 f3 f4 f5 f6 : Addr} {t0 t1 : Tok} (X : K.In h) (G : h.Ns mainGlobals mg) (hfa : mg "beside" = some (.ref fa))
    {od1 an1 od2 an2 od3 an3 od4 an4 od5 an5 od6 an6 : Option Addr} {sl1 sl2 sl3 sl4 sl5 sl6 : Array (Option Value)} {oc1 kV1 dc1 pm1 cd1 ct1 oc2 kV2 dc2 pm2 cd2 ct2 oc3 kV3 dc3 pm3 cd3 ct3 oc4 kV4 dc4 pm4 cd4 ct4 oc5 kV5 dc5 pm5 cd5 ct5 oc6 kV6 dc6 pm6 cd6 ct6 : Value}
    (a1 : PySem.W.nsIn K mainGlobals "beside" = some (some (.ref f1))) (l1 : K.lookup f1 = some ⟨oc1, od1, .func (PySem.W.fnOf "beside" "beside" (defArgs sBes) (defBody sBes) (defScope sBes) .none kV1 dc1 pm1 an1 cd1 ct1), sl1⟩) (c1 : PySem.W.codeIn K cd1 "beside" = true) (k1 : PySem.W.keepIn K (.ref f1) = true)
    (a2 : PySem.W.nsIn K mainGlobals "is_graph" = some (some (.ref f2))) (l2 : K.lookup f2 = some ⟨oc2, od2, .func (PySem.W.fnOf "is_graph" "is_graph" (defArgs sIsG) (defBody sIsG) (defScope sIsG) .none kV2 dc2 pm2 an2 cd2 ct2), sl2⟩) (c2 : PySem.W.codeIn K cd2 "is_graph" = true) (k2 : PySem.W.keepIn K (.ref f2) = true)
    (a3 : PySem.W.nsIn K mainGlobals "is_rising" = some (some (.ref f3))) (l3 : K.lookup f3 = some ⟨oc3, od3, .func (PySem.W.fnOf "is_rising" "is_rising" (defArgs sRis) (defBody sRis) (defScope sRis) .none kV3 dc3 pm3 an3 cd3 ct3), sl3⟩) (c3 : PySem.W.codeIn K cd3 "is_rising" = true) (k3 : PySem.W.keepIn K (.ref f3) = true)
    (a4 : PySem.W.nsIn K mainGlobals "arrows_of" = some (some (.ref f4))) (l4 : K.lookup f4 = some ⟨oc4, od4, .func (PySem.W.fnOf "arrows_of" "arrows_of" (defArgs sArr) (defBody sArr) (defScope sArr) .none kV4 dc4 pm4 an4 cd4 ct4), sl4⟩) (c4 : PySem.W.codeIn K cd4 "arrows_of" = true) (k4 : PySem.W.keepIn K (.ref f4) = true)
    (a5 : PySem.W.nsIn K mainGlobals "answer" = some (some (.ref f5))) (l5 : K.lookup f5 = some ⟨oc5, od5, .func (PySem.W.fnOf "answer" "answer" (defArgs sAns) (defBody sAns) (defScope sAns) .none kV5 dc5 pm5 an5 cd5 ct5), sl5⟩) (c5 : PySem.W.codeIn K cd5 "answer" = true) (k5 : PySem.W.keepIn K (.ref f5) = true)
    (a6 : PySem.W.nsIn K mainGlobals "arrows_beside" = some (some (.ref f6))) (l6 : K.lookup f6 = some ⟨oc6, od6, .func (PySem.W.fnOf "arrows_beside" "arrows_beside" (defArgs sABe) (defBody sABe) (defScope sABe) .none kV6 dc6 pm6 an6 cd6 ct6), sl6⟩) (c6 : PySem.W.codeIn K cd6 "arrows_beside" = true) (k6 : PySem.W.keepIn K (.ref f6) = true)
    (gq0 : PySem.W.nsIn K mainGlobals "MOST_PLACES" = some (some (.int (5) t0)))
    (gq1 : PySem.W.nsIn K mainGlobals "NO_GRAPH" = some (some (.int (-22) t1)))
    (zq0 : PySem.W.nsIn K mainGlobals "range" = some none)
    (zq1 : PySem.W.nsIn K mainGlobals "len" = some none)
    (zq2 : PySem.W.nsIn K mainGlobals "all" = some none) :
    ∃ fd : FuncData, (∀ (s : Shared) (us : List Value), us.length = (["n", "m", "first", "second"] : List Str).length → BindsTo s fd ⟨us, []⟩ ((["n", "m", "first", "second"] : List Str).zip us)) ∧ ∀ base : Heap, K.In base → base.Ns mainGlobals mg → FnOk P w K mg base CX0 3 fa fd ["n", "m", "first", "second"] (spBes K) := by
  have e := hfa.symm.trans (PySem.W.mg_of X G a1)
  cases e
  have F1 := fun_mk (st := sBes) l1 c1 k1
  have F2 := fun_mk (st := sIsG) l2 c2 k2
  have F3 := fun_mk (st := sRis) l3 c3 k3
  have F4 := fun_mk (st := sArr) l4 c4 k4
  have F5 := fun_mk (st := sAns) l5 c5 k5
  have F6 := fun_mk (st := sABe) l6 c6 k6
  have b2 := F2.binds (ps := ["places", "told"]) fun _ _ _ _ _ _ us hl => match us, hl with | [_, _], _ => rfl
  have b3 := F3.binds (ps := ["arrows"]) fun _ _ _ _ _ _ us hl => match us, hl with | [_], _ => rfl
  have b4 := F4.binds (ps := ["told"]) fun _ _ _ _ _ _ us hl => match us, hl with | [_], _ => rfl
  have b5 := F5.binds (ps := ["places", "arrows"]) fun _ _ _ _ _ _ us hl => match us, hl with | [_, _], _ => rfl
  have b6 := F6.binds (ps := ["n", "one", "other"]) fun _ _ _ _ _ _ us hl => match us, hl with | [_, _, _], _ => rfl
  exact ⟨_, fun s us hu => match us, hu with | [_, _, _, _], _ => .of_eq rfl, fun base _ _ => ok_bes F1 F2 b2 (PySem.W.mg_of X G a2) F3 b3 (PySem.W.mg_of X G a3) F4 b4 (PySem.W.mg_of X G a4) F5 b5 (PySem.W.mg_of X G a5) F6 b6 (PySem.W.mg_of X G a6)
    (PySem.W.mg_of X G gq0) (PySem.W.mg_of X G gq1) (PySem.W.mg_none_of X G zq0) (PySem.W.mg_none_of X G zq1) (PySem.W.mg_none_of X G zq2)⟩
end Gt
open PySem PySem.W PyProof.Rows
set_option maxRecDepth 100000 in
set_option maxHeartbeats 8000000 in
theorem PySem.Challenge.cw_graphstogether_s01_beside_holds : PySem.Challenge.rw_graphstogether_s01_beside.Holds := by
  w_on; k_headS; (case hw => exact ⟨[.int 0, .int 0, .list [], .list []], by decide +kernel, by decide +kernel⟩)
  k_fillS
  refine L2.walk_specK (r := PySem.Challenge.rw_graphstogether_s01_beside) (k := 3) (CX := L2.CX0) (ps := ["n", "m", "first", "second"]) (sp := Gt.spBes) (by decide +kernel) rfl rfl ⟨rfl, by decide, by decide⟩ (fun w h Y => PySem.W.kIn_of Y) ?F ?S (fun _ _ _ _ z => z)
  case F =>
    intro w mg fa h Y KX G hmg
    refine' Gt.all_mk KX G hmg ?a1 ?l1 ?c1 ?k1 ?a2 ?l2 ?c2 ?k2 ?a3 ?l3 ?c3 ?k3 ?a4 ?l4 ?c4 ?k4 ?a5 ?l5 ?c5 ?k5 ?a6 ?l6 ?c6 ?k6 ?gq0 ?gq1 ?zq0 ?zq1 ?zq2
    (case a1 => k_is); (case l1 => k_is); (case c1 => k_is); (case k1 => k_is)
    (case a2 => k_is); (case l2 => k_is); (case c2 => k_is); (case k2 => k_is)
    (case a3 => k_is); (case l3 => k_is); (case c3 => k_is); (case k3 => k_is)
    (case a4 => k_is); (case l4 => k_is); (case c4 => k_is); (case k4 => k_is)
    (case a5 => k_is); (case l5 => k_is); (case c5 => k_is); (case k5 => k_is)
    (case a6 => k_is); (case l6 => k_is); (case c6 => k_is); (case k6 => k_is)
    (case gq0 => k_is); (case gq1 => k_is); (case zq0 => k_is); (case zq1 => k_is)
    (case zq2 => k_is)
  case S =>
    intro K H xs a hO hwi hask hx
    obtain ⟨n, m, ns, ms, u⟩ := a
    have q : (Codec.inInt 0 4294967295 n && (Codec.inInt 0 4294967295 m && ((Codec.inLen 0 60 ns && ns.all (Codec.inInt 0 4294967295)) && ((Codec.inLen 0 60 ms && ms.all (Codec.inInt 0 4294967295)) && true)))) = true := hwi
    simp only [Bool.and_eq_true, List.all_eq_true, Codec.inInt_iff] at q
    obtain ⟨q1, q2, ⟨q3, q4⟩, ⟨q5, q6⟩, _⟩ := q
    cases hx with
    | cons h1 h2 =>
      cases h2 with
      | cons h2 h3 =>
        cases h3 with
        | cons h3 h4 =>
          cases h4 with
          | cons h4 h5 =>
            cases h5
            cases h1 with
            | int =>
              cases h2 with
              | int =>
                cases h3 with
                | lst hs3 ha3 =>
                  cases h4 with
                  | lst hs4 ha4 =>
                    have e3 := L2.ints_dw ns _ ha3
                    have e4 := L2.ints_dw ms _ ha4
                    subst e3 e4
                    refine ⟨n, m, _, _, ns, ms, rfl, hs3, hs4, (Codec.inNat_iff.mp q3).2, (Codec.inNat_iff.mp q5).2, fun H' p hp => ?_⟩
                    show L2.Dw K H' (.ref p) (.list ((PyKs549.beside n m ns ms).map WData.int))
                    rw [Gt.beside_eq q1.1 q2.1 (fun x hx => (q4 x hx).1) (fun x hx => (q6 x hx).1)]
                    exact .lst (L2.SqL.of hp) (L2.dw_ints _)
#print axioms PySem.Challenge.cw_graphstogether_s01_beside_holds
