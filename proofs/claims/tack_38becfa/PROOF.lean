import PyProof.Rows.All
import KE.OsGo
import PySem.Challenge.RW_waterways_s07_tack
set_option Elab.async false
namespace Wz
open Rg
def In (z : Int) : Prop := -1048576 ≤ z ∧ z ≤ 1048576
theorem far (z : Int) : z.natAbs ≤ Rg.FAR ↔ In z := by
  unfold Rg.FAR In
  omega
theorem ptok (x y : Int) : (Pt.ok ⟨x, y⟩ = true) ↔ (In x ∧ In y) := by
  unfold Pt.ok
  simp only [Bool.and_eq_true, decide_eq_true_eq, far]
theorem ptne (a b c d : Int) : (((⟨a, b⟩ : Pt) != ⟨c, d⟩) = true) ↔ ¬ (a = c ∧ b = d) := by
  rw [bne_iff_ne, Ne, Pt.mk.injEq]
theorem hullok (a b c d : Int) : (Hull.ok ⟨⟨a, b⟩, ⟨c, d⟩⟩ = true) ↔ ((In a ∧ In b) ∧ (In c ∧ In d) ∧ ¬ (a = c ∧ b = d)) := by
  unfold Hull.ok
  simp only [Bool.and_eq_true, ptok, ptne]
theorem windok (u v : Int) : (Wqatct.isWind ⟨u, v⟩ = true) ↔ ((In u ∧ In v) ∧ ¬ (u = 0 ∧ v = 0)) := by
  unfold Wqatct.isWind
  simp only [Bool.and_eq_true, ptok, ptne]
/-- An answer's list: the one number of a refusal, or what is told. -/
theorem step_bad {c : Wqatct.Call} (h : ¬ c.ok = true) :
    (Wqatct.answer c).ret :: (Wqatct.answer c).nums.map WqatctNeutral.int = [-8] := by
  unfold Wqatct.answer
  rw [if_neg h]
  rfl
theorem step_ok {c : Wqatct.Call} (h : c.ok = true) :
    (Wqatct.answer c).ret :: (Wqatct.answer c).nums.map WqatctNeutral.int = (Wqatct.told c).ret :: (Wqatct.told c).nums.map WqatctNeutral.int := by
  unfold Wqatct.answer
  rw [if_pos h]
theorem tack_bad {a b c d u v t : Int} (h : ¬ (((In a ∧ In b) ∧ (In c ∧ In d) ∧ ¬ (a = c ∧ b = d)) ∧ ((In u ∧ In v) ∧ ¬ (u = 0 ∧ v = 0)) ∧ (t = 1 ∨ t = -1))) :
    PyWqatct.tack a b c d u v t = [-8] := by
  refine step_bad (c := .tack ⟨⟨a, b⟩, ⟨c, d⟩⟩ ⟨u, v⟩ t) ?_
  unfold Wqatct.Call.ok
  simp only [Bool.and_eq_true, hullok, windok, Bool.or_eq_true, beq_iff_eq]
  exact h
theorem tack_told {a b c d u v t : Int} (h : ((In a ∧ In b) ∧ (In c ∧ In d) ∧ ¬ (a = c ∧ b = d)) ∧ ((In u ∧ In v) ∧ ¬ (u = 0 ∧ v = 0)) ∧ (t = 1 ∨ t = -1)) :
    PyWqatct.tack a b c d u v t = [if 0 < (a - c) * v - (b - d) * u then 1 else if (a - c) * v - (b - d) * u < 0 then 2 else if t = 1 then 1 else 2] := by
  refine (step_ok (c := .tack ⟨⟨a, b⟩, ⟨c, d⟩⟩ ⟨u, v⟩ t) ?_).trans ?_
  · unfold Wqatct.Call.ok
    simp only [Bool.and_eq_true, hullok, windok, Bool.or_eq_true, beq_iff_eq]
    exact h
  · show [if (if 0 < (a - c) * v - (b - d) * u then true else if (a - c) * v - (b - d) * u < 0 then false else (t == 1)) = true then (1 : Int) else 2] = _
    congr 1
    generalize (a - c) * v - (b - d) * u = w
    by_cases c1 : 0 < w
    · rw [if_pos c1, if_pos c1, if_pos rfl]
    · rw [if_neg c1, if_neg c1]
      by_cases c2 : w < 0
      · rw [if_pos c2, if_pos c2]
        rfl
      · rw [if_neg c2, if_neg c2]
        simp only [beq_iff_eq]
/-- A place's greater number without its sign, as the program asks it. -/
theorem big (x y : Int) : ((1048576 : Int) < if (if y < 0 then -y else y) > (if x < 0 then -x else x) then (if y < 0 then -y else y) else (if x < 0 then -x else x)) ↔ ¬ (In x ∧ In y) := by
  unfold In
  split <;> split <;> split <;> omega
/-- A place of these two is beyond, as the program asks it. -/
abbrev Far (a b c d : Int) : Bool :=
  (decide ((1048576 : Int) < if (if b < 0 then -b else b) > (if a < 0 then -a else a) then (if b < 0 then -b else b) else (if a < 0 then -a else a)) ||
    decide ((1048576 : Int) < if (if d < 0 then -d else d) > (if c < 0 then -c else c) then (if d < 0 then -d else d) else (if c < 0 then -c else c)))
theorem far_yes {a b c d : Int} (h : Far a b c d = true) : ¬ ((In a ∧ In b) ∧ (In c ∧ In d)) := by
  simp only [Far, Bool.or_eq_true, decide_eq_true_eq, big] at h
  intro k
  cases h with
  | inl h => exact h k.1
  | inr h => exact h k.2
theorem far_no {a b c d : Int} (h : Far a b c d = false) : (In a ∧ In b) ∧ (In c ∧ In d) := by
  simp only [Far, Bool.or_eq_false_iff, decide_eq_false_iff_not, big, Classical.not_not] at h
  exact h
theorem same_yes {a b c d : Int} (h : (a == c && b == d) = true) : a = c ∧ b = d := by
  simpa only [Bool.and_eq_true, beq_iff_eq] using h
theorem same_no {a b c d : Int} (h : (a == c && b == d) = false) : ¬ (a = c ∧ b = d) := by
  intro k
  rw [k.1, k.2] at h
  simp at h
/-- A hull, a wind and a number before that are not refused. -/
def TackIn (a b c d u v t : Int) : Prop := ((In a ∧ In b) ∧ (In c ∧ In d) ∧ ¬ (a = c ∧ b = d)) ∧ ((In u ∧ In v) ∧ ¬ (u = 0 ∧ v = 0)) ∧ (t = 1 ∨ t = -1)
theorem tack_e1 {a b c d u v t : Int} (h : Far a b c d = true) : [-8] = PyWqatct.tack a b c d u v t := (tack_bad fun k => far_yes h ⟨k.1.1, k.1.2.1⟩).symm
theorem tack_e2 {a b c d u v t : Int} (h : (a == c && b == d) = true) : [-8] = PyWqatct.tack a b c d u v t := (tack_bad fun k => k.1.2.2 (same_yes h)).symm
theorem tack_e3 {a b c d u v t : Int} (h : (1048576 : Int) < if (if v < 0 then -v else v) > (if u < 0 then -u else u) then (if v < 0 then -v else v) else (if u < 0 then -u else u)) : [-8] = PyWqatct.tack a b c d u v t := (tack_bad fun k => (big u v).mp h k.2.1.1).symm
theorem tack_e4 {a b c d u v t : Int} (h : (u == 0 && v == 0) = true) : [-8] = PyWqatct.tack a b c d u v t := (tack_bad fun k => k.2.1.2 (same_yes h)).symm
theorem any_yes {t : Int} (h : ([1, -1].any fun x => x == t) = true) : t = 1 ∨ t = -1 := by
  simp only [List.any_cons, List.any_nil, Bool.or_false, Bool.or_eq_true, beq_iff_eq] at h
  omega
theorem any_no {t : Int} (h : ([1, -1].any fun x => x == t) = false) : ¬ (t = 1 ∨ t = -1) := by
  simp only [List.any_cons, List.any_nil, Bool.or_false, Bool.or_eq_false_iff, beq_eq_false_iff_ne] at h
  omega
theorem tack_e5 {a b c d u v t : Int} (h : ([1, -1].any fun x => x == t) = false) : [-8] = PyWqatct.tack a b c d u v t := (tack_bad fun k => any_no h k.2.2).symm
theorem tack_in {a b c d u v t : Int} (h1 : Far a b c d = false) (h2 : (a == c && b == d) = false) (h3 : ¬ (1048576 : Int) < if (if v < 0 then -v else v) > (if u < 0 then -u else u) then (if v < 0 then -v else v) else (if u < 0 then -u else u)) (h4 : (u == 0 && v == 0) = false) (h5 : ([1, -1].any fun x => x == t) = true) :
    TackIn a b c d u v t :=
  ⟨⟨(far_no h1).1, (far_no h1).2, same_no h2⟩, ⟨Classical.not_not.mp fun k => h3 ((big u v).mpr k), same_no h4⟩, any_yes h5⟩
theorem tack_p {a b c d u v t : Int} (h : TackIn a b c d u v t) (k : 0 < (a - c) * v - (b - d) * u) : [1] = PyWqatct.tack a b c d u v t := by
  rw [tack_told h, if_pos k]
theorem tack_n {a b c d u v t : Int} (h : TackIn a b c d u v t) (k : (a - c) * v - (b - d) * u < 0) : [2] = PyWqatct.tack a b c d u v t := by
  rw [tack_told h, if_neg (by omega), if_pos k]
theorem tack_n2 {a b c d u v t : Int} (h : TackIn a b c d u v t) (k0 : (a - c) * v - (b - d) * u ≠ 0) (k1 : ¬ 0 < (a - c) * v - (b - d) * u) : [2] = PyWqatct.tack a b c d u v t := tack_n h (by omega)
theorem tack_z1 {a b c d u v t : Int} (h : TackIn a b c d u v t) (k : (a - c) * v - (b - d) * u = 0) (w : 0 < t) : [1] = PyWqatct.tack a b c d u v t := by
  rw [tack_told h, if_neg (by omega), if_neg (by omega), if_pos (by have := h.2.2; omega)]
theorem tack_z2 {a b c d u v t : Int} (h : TackIn a b c d u v t) (k : (a - c) * v - (b - d) * u = 0) (w : t < 0) : [2] = PyWqatct.tack a b c d u v t := by
  rw [tack_told h, if_neg (by omega), if_neg (by omega), if_neg (by omega)]
theorem tack_never {a b c d u v t x : Int} (k0 : ¬ (a - c) * v - (b - d) * u = 0) (k1 : ¬ 0 < (a - c) * v - (b - d) * u) (k2 : ¬ (a - c) * v - (b - d) * u < 0) : [x] = PyWqatct.tack a b c d u v t := by
  exfalso
  omega
theorem tack_never_t {a b c d u v t x : Int} (h : TackIn a b c d u v t) (k1 : ¬ 0 < t) (k2 : ¬ t < 0) : [x] = PyWqatct.tack a b c d u v t := by
  exfalso
  have := h.2.2
  omega
end Wz
/-! A list comprehension that goes through a tuple. -/
namespace Wz
open PySem PySem.Spec PySem.Calls PyProof.Rows
/-- The tuple lies in what was there before, or it is among what was made. -/
def TupAt (g0 : Heap) (ta : Addr) (xs : Array Value) (made : List (Addr × Obj)) : Prop :=
  g0.IsTuple ta xs ∨ ∃ o, (ta, o) ∈ made ∧ o.cls = .type "tuple" ∧ ∃ n, o.data = .seq xs n
theorem tup_at {g0 g : Heap} {fl ta : Addr} {xs : Array Value} {made : List (Addr × Obj)} (t : TupAt g0 ta xs made)
    (kept : ∀ b o, g0.get? b = some o → g.get? b = some o) (nw : News g0 fl g made) : g.IsTuple ta xs := by
  cases t with
  | inl t =>
    obtain ⟨o, e, r⟩ := t
    exact ⟨o, kept _ _ e, r⟩
  | inr t =>
    obtain ⟨o, e, r⟩ := t
    exact ⟨o, (nw _ e).1, r⟩
section
variable {prog : Program} {w : World} {A : Around} {E : Value → Shared → Prop} {g0 : Heap} {fl : Addr} {m : Str → Option Value} {env : Env}
variable {elt iter : Expr} {x : Str} {px : Pos} {scope : Scope} {cl : List (Str × Addr)} {pos : Pos}
def TupSrc (prog : Program) (w : World) (A : Around) (g0 : Heap) (fl : Addr) (m : Str → Option Value) (env : Env) (elt : Expr) (x : Str) (scope : Scope) (cl : List (Str × Addr))
    (Fin : Shared → List Value → List (Addr × Obj) → Prop) (tv : Value) (s : Shared) : Prop :=
  ∃ ta xs made, tv = .ref ta ∧ A.handled = none ∧ Fr g0 fl s.heap m ∧ News g0 fl s.heap made ∧ TupAt g0 ta xs made ∧ xs.size ≤ sizeLine ∧
    ∀ g, LCg.CompRest prog w A g0 fl m env elt x scope cl { s with heap := g } (TupAt g0 ta xs) (fun i v => xs[i]? = some v) (Fin { s with heap := g }) xs.size 0 [] made
theorem tup_src {Fin : Shared → List Value → List (Addr × Obj) → Prop} {ta : Addr} {xs : Array Value} {k : Nat} {made : List (Addr × Obj)} {s : Shared}
    (ha : A.handled = none) (f : Fr g0 fl s.heap m) (nw : News g0 fl s.heap made) (hm : (ta, ({ cls := .type "tuple", data := .seq xs k } : Obj)) ∈ made) (few : xs.size ≤ sizeLine)
    (r : ∀ g, LCg.CompRest prog w A g0 fl m env elt x scope cl { s with heap := g } (TupAt g0 ta xs) (fun i v => xs[i]? = some v) (Fin { s with heap := g }) xs.size 0 [] made) :
    TupSrc prog w A g0 fl m env elt x scope cl Fin (.ref ta) s :=
  ⟨ta, xs, made, rfl, ha, f, nw, Or.inr ⟨_, hm, rfl, _, rfl⟩, few, r⟩
theorem tup_st {ta it : Addr} {xs : Array Value} : ∀ i (g g' : Heap) (o : Obj) (made : List (Addr × Obj)), (g.IsTupleIter it ta i ∧ g.IsTuple ta xs) → g.get? it = some o → g'.get? it = some o →
    (∀ b o, g0.get? b = some o → g'.get? b = some o) → News g0 fl g' made → TupAt g0 ta xs made → (g'.IsTupleIter it ta i ∧ g'.IsTuple ta xs) := by
  intro i g g' o made st e e' kept nw t
  refine ⟨?_, tup_at t kept nw⟩
  obtain ⟨o', q, r⟩ := st.1
  rw [e] at q
  cases q
  exact ⟨o, e', r⟩
theorem tup_block {Fin : Shared → List Value → List (Addr × Obj) → Prop} {RR : Value → Addr → Result → Shared → Prop} {tv : Value} {s : Shared}
    (T : TupSrc prog w A g0 fl m env elt x scope cl Fin tv s)
    (c1 : ∀ y ∈ scope.names, y.2 ≠ .cell) (c2 : scope.kind = .function) (c3 : scope.names.lookup x = some .local)
    (hR : ∀ g D C g' tk m' ys made, Fr g0 fl g' m → News g0 fl g' ((D, LCg.lst ys) :: made) → LCg.Off1 D made → g'.Ns C m' → g0.get? C = none → g0.get? D = none → C ≠ fl → D ≠ fl → C ≠ D →
      (∀ p ∈ made, p.1 ≠ C) → Fin { s with heap := g } ys made → RR (.ref D) C (.ok .next) { s with heap := g', toks := tk }) :
    wpAny (model prog w) A (pyIter tv) (fun it s₂ => wpAny (model prog w) A (newList []) (fun acc s₃ =>
      wpAny (model prog w) A (newFunctionEnv scope env.globals cl [] env.qual none .none (some env)) (fun ce s₄ =>
        codeAny (model prog w) A (.compStart (.ListComp elt [⟨.Name x px, iter, [], 0⟩] scope pos) 0 it acc { ce with scope := relabel scope env }) (RR acc ce.locals) s₄) E s₃) E s₂) E s := by
  obtain ⟨ta, xs, made, rfl, ha, f, nw, t, few, r⟩ := T
  have ht := tup_at t f.keep nw
  have lo : ta < s.heap.objs.size := by
    obtain ⟨_, e, _⟩ := ht
    exact Heap.lt_size e
  refine wpAny_pyIter_tuple ht ?_
  generalize hO : ({ cls := .type "tuple_iterator", data := .fields #[.ref ta, .int 0 0] } : Obj) = O
  have kept : ∀ b o, s.heap.get? b = some o → (s.heap.push O).get? b = some o := fun b o e => Heap.get?_push_of_some _ e
  have nO : O.isFreed = false := by rw [← hO]; rfl
  have self : (s.heap.push O).get? s.heap.objs.size = some O := Heap.get?_push_size _ nO
  have st0 : (s.heap.push O).IsTupleIter s.heap.objs.size ta 0 ∧ (s.heap.push O).IsTuple ta xs := ⟨⟨O, self, by rw [← hO], by rw [← hO]; rfl⟩, ht.push _⟩
  refine LCg.block_U (s₂ := { s with heap := s.heap.push O }) (Walks.tuple ha s.heap.objs.size ta (Nat.ne_of_lt lo) xs) few ?_ tup_st c1 c2 c3 st0 ?_ (f.keeps kept) (nw.grown kept) (Nat.ne_of_lt f.ns.lt) (next_is_new f) ?_ t (r _) ?_
  · intro i g st
    obtain ⟨o, e, _⟩ := st.1
    exact ⟨o, e⟩
  · intro b hb
    have sz : (s.heap.push O).objs.size = s.heap.objs.size + 1 := Heap.size_push ..
    show b < (s.heap.push O).objs.size
    rw [sz]
    simp only [List.mem_cons, List.not_mem_nil, or_false] at hb
    cases hb with
    | inl hb => rw [hb]; exact Nat.lt_succ_self _
    | inr hb => rw [hb]; exact Nat.lt_succ_of_lt lo
  · intro p hp
    exact Nat.ne_of_lt (Heap.lt_size (nw p hp).1)
  · intro D C g' tk m' ys made' f' nw' o1 hn hC hD nC nD nCD offC fin
    exact hR _ D C g' tk m' ys made' f' nw' o1 hn hC hD nC nD nCD offC fin
/-- What was made stays when the comprehension's own names are let go. -/
theorem tup_let {D C : Addr} {g' g'' : Heap} {ys : List Value} {made : List (Addr × Obj)} (nw : News g0 fl g' ((D, LCg.lst ys) :: made)) (nCD : C ≠ D) (offC : ∀ p ∈ made, p.1 ≠ C)
    (hs : Heap.SameBut C g' g'') : News g0 fl g'' ((D, LCg.lst ys) :: made) := by
  intro p hp
  refine ⟨hs.extBut _ _ ?_ (nw p hp).1, (nw p hp).2⟩
  cases List.mem_cons.mp hp with
  | inl e => rw [e]; exact Ne.symm nCD
  | inr e => exact offC p e
theorem ListComp_tup {s : Shared} {Q : Value → Shared → Prop} (_f : Fr g0 fl s.heap m)
    (c0 : closureFor scope env = pure cl) (c1 : ∀ y ∈ scope.names, y.2 ≠ .cell) (c2 : scope.kind = .function)
    (c4 : ∀ y ∈ scope.names, y.2 = .local → scope.names.lookup y.1 = some .local) (c3 : scope.names.lookup x = some .local)
    (h : wpAny (model prog w) A (eval iter env) (TupSrc prog w A g0 fl m env elt x scope cl (fun s₂ => LCg.FinE g0 fl m s₂ Q)) E s)
    (c5 : ∀ y, foldedSetIterable iter env y = pure y := by intro _; rfl) :
    wpAny (model prog w) A (eval (.ListComp elt [⟨.Name x px, iter, [], 0⟩] scope pos) env) Q E s := by
  rw [eval_ListComp]
  refine wpAny_comprehension_free (use := none) rfl c5 c0 c2 c4 ?_
  refine wpAny_mono h (fun tv s₁ T => ?_) fun _ _ e => e
  refine tup_block T c1 c2 c3 ?_
  intro g D C g' tk m' ys made f' nw' o1 hn hC hD nC nD nCD offC fin
  refine ⟨m', hn, fun g'' hs => ?_⟩
  exact fin D g'' tk (f'.change hs nC hC) (tup_let nw' nCD offC hs) o1
theorem Assign_tup {s : Shared} {y : Str} {py spos : Pos} {Q : Flow → Shared → Prop} (_f : Fr g0 fl s.heap m) (hl : env.locals = fl)
    (c6 : swapsWith (.ListComp elt [⟨.Name x px, iter, [], 0⟩] scope pos) (some (.Name y py)) spos.line env = pure true)
    (c0 : closureFor scope env = pure cl) (c1 : ∀ y ∈ scope.names, y.2 ≠ .cell) (c2 : scope.kind = .function)
    (c4 : ∀ y ∈ scope.names, y.2 = .local → scope.names.lookup y.1 = some .local) (c3 : scope.names.lookup x = some .local)
    (c7 : env.kindOf y = some .local) (c8 : (env.scope.kind == .class || (env.scope.kind == .module && env.locals != env.globals)) = false)
    (h : wpAny (model prog w) A (eval iter env) (TupSrc prog w A g0 fl m env elt x scope cl (fun s₂ => LCg.FinA g0 fl m s₂ y Q)) E s)
    (c5 : ∀ y, foldedSetIterable iter env y = pure y := by intro _; rfl) :
    wpAny (model prog w) A (exec (.Assign [.Name y py] (.ListComp elt [⟨.Name x px, iter, [], 0⟩] scope pos) spos) env) Q E s := by
  subst hl
  rw [exec_Assign_Name_used _ _ _ _ c6]
  refine wpAny_bind (wpAny_standAt (wpAny_bind ?_))
  show wpAny _ A (comprehension (.ListComp elt [⟨.Name x px, iter, [], 0⟩] scope pos) scope env _ (newList []) false (eval iter env) (some (assign (.Name y py) env)) >>= _) _ _ s
  have key := wpAny_comprehension_free (M := model prog w) (A := A) (E := E) (s := s) (env := env) (e := .ListComp elt [⟨.Name x px, iter, [], 0⟩] scope pos) (newAcc := newList []) (first := eval iter env)
    (use := some (assign (.Name y py) env)) (Q := fun _ s' => Q .next s') (pos := firstIterPos [⟨.Name x px, iter, [], 0⟩] pos) rfl c5 c0 c2 c4 (wpAny_mono h (fun tv s₁ T => tup_block T c1 c2 c3 ?_) fun _ _ e => e)
  · exact wpAny_bind (wpAny_mono key (fun _ s' q => wpAny_pure (wpAny_pure q)) fun _ _ e => e)
  · intro g D C g' tk m' ys made f' nw' o1 hn hC hD nC nD nCD offC fin
    show wpAny _ A (assign (.Name y py) env (.ref D)) _ _ _
    refine wpAny_assign_Name (wpAny_storeName_local c7 f'.ns (fun g2 hn2 hs2 => ?_) c8)
    have no : g0.get? env.locals = none := Heap.get?_none_of_le f'.above
    have keep2 : ∀ b o, g0.get? b = some o → g2.get? b = some o := by
      intro b o e
      refine hs2.extBut b o (fun q => ?_) (f'.keep b o e)
      rw [q, no] at e
      cases e
    have f2 : Fr g0 env.locals g2 (fun z => if z = y then some (.ref D) else m z) := ⟨hn2, keep2, f'.above⟩
    have nw2 : News g0 env.locals g2 ((D, LCg.lst ys) :: made) := fun p hp => ⟨hs2.extBut _ _ (nw' p hp).2.1 (nw' p hp).1, (nw' p hp).2⟩
    refine ⟨m', hn.sameBut hs2 nC, fun g3 hs => ?_⟩
    exact fin D g3 _ (f2.change hs nC hC) (tup_let nw2 nCD offC hs) o1
end
end Wz
/-! A call that hands back a plain value: what it made is forgotten. -/
namespace Wz
open PySem
structure Mark : Prop where
def Forget (h₀ : Heap) (L : Addr) (m : Str → Option Value) (news : List (Addr × Obj)) (s : Shared) (Q : Value → Shared → Prop) (v : Value) (s' : Shared) : Prop :=
  ∃ (h : Heap) (tk : Nat), s' = { s with heap := h, toks := tk } ∧ PyProof.Rows.Fr h₀ L h m ∧ PyProof.Rows.News h₀ L h news ∧
    ∀ (h : Heap) (tk : Nat), PyProof.Rows.Fr h₀ L h m → PyProof.Rows.News h₀ L h news → Q v { s with heap := h, toks := tk }
theorem forget_end {h₀ h : Heap} {L : Addr} {m : Str → Option Value} {news news' : List (Addr × Obj)} {s s' : Shared} {Q : Value → Shared → Prop} {v : Value} {tk : Nat}
    (hs : s' = { s with heap := h, toks := tk }) (F : PyProof.Rows.Fr h₀ L h m) (N : PyProof.Rows.News h₀ L h news') (sub : ∀ p ∈ news, p ∈ news')
    (q : ∀ (h : Heap) (tk : Nat), PyProof.Rows.Fr h₀ L h m → PyProof.Rows.News h₀ L h news → Q v { s with heap := h, toks := tk }) : Forget h₀ L m news s Q v s' :=
  ⟨h, tk, hs, F, fun p hp => N p (sub p hp), q⟩
theorem forget {M : Model} {A : Around} {E : Value → Shared → Prop} {Q : Value → Shared → Prop} {s : Shared} {h₀ : Heap} {L : Addr} {m : Str → Option Value} {news : List (Addr × Obj)} {c : Sem Value}
    (_ : PyProof.Rows.Fr h₀ L s.heap m) (_ : PyProof.Rows.News h₀ L s.heap news)
    (hc : Mark → wpAny M A c (fun v s₂ => Forget h₀ L m news s Q v s₂) E s) : wpAny M A c Q E s := by
  refine wpAny_mono (hc ⟨⟩) (fun v s₂ k => ?_) fun _ _ h => h
  obtain ⟨h, tk, hs, F, N, q⟩ := k
  subst hs
  exact q h tk F N
end Wz
namespace Wz
open PySem PyProof.Rows
theorem comp_end {g0 g : Heap} {fl I C D : Addr} {m : Str → Option Value} {s : Shared} {oI oC oD : Obj} {S : List (Addr × Obj) → Prop} {rest : Value → List (Addr × Obj) → Prop} {y : Value} {tk : Nat} {made : List (Addr × Obj)}
    (f : Fr g0 fl g m) (nw : News g0 fl g ((I, oI) :: (C, oC) :: (D, oD) :: made)) (off : LCg.Off3 I C D made) (hS : S made) (r : rest y made) :
    LCg.CompEnd g0 fl m s I oI C oC D oD S rest y { s with heap := g, toks := tk } := ⟨g, tk, made, rfl, f, nw, off, hS, r⟩
end Wz
open PySem PySem.W PyProof.Rows
/-! The request, number by number. -/
namespace Wz
theorem take_int {lo hi k : Int} {cs : List Codec} {ds : List WData} (h : (Codec.decAll (.int lo hi :: cs) (WData.int k :: ds)).isSome = true) :
    (lo ≤ k ∧ k ≤ hi) ∧ (Codec.decAll cs ds).isSome = true ∧ ∀ r, Codec.decAll cs ds = some r → Codec.decAll (.int lo hi :: cs) (WData.int k :: ds) = some (k, r) := by
  have e : Codec.decAll (.int lo hi :: cs) (WData.int k :: ds) = Codec.both Prod.mk (if Codec.inInt lo hi k = true then some k else none) (Codec.decAll cs ds) := rfl
  rw [e] at h ⊢
  cases h1 : Codec.inInt lo hi k with
  | false =>
    rw [h1] at h
    cases h
  | true =>
    rw [h1, if_pos rfl] at h
    have h2 := h1
    unfold Codec.inInt at h2
    simp only [Bool.and_eq_true, decide_eq_true_eq] at h2
    cases h3 : Codec.decAll cs ds with
    | none =>
      rw [h3] at h
      cases h
    | some r =>
      refine ⟨h2, rfl, fun r' e' => ?_⟩
      cases e'
      rfl
theorem tack_post {a b c d u v t : Int} {l : List Int}
    (hpre : PySem.Challenge.rw_waterways_s07_tack.pre [.int a, .int b, .int c, .int d, .int u, .int v, .int t] = true)
    (h : l = PyWqatct.tack a b c d u v t) :
    PySem.Challenge.rw_waterways_s07_tack.post [.int a, .int b, .int c, .int d, .int u, .int v, .int t] (ofPy (PyData.list (l.map PyData.int))) = true := by
  obtain ⟨_, k1, g1⟩ := take_int (os_pre_isSome hpre)
  obtain ⟨_, k2, g2⟩ := take_int k1
  obtain ⟨_, k3, g3⟩ := take_int k2
  obtain ⟨_, k4, g4⟩ := take_int k3
  obtain ⟨_, k5, g5⟩ := take_int k4
  obtain ⟨_, k6, g6⟩ := take_int k5
  obtain ⟨_, k7, g7⟩ := take_int k6
  refine os_post (g1 _ (g2 _ (g3 _ (g4 _ (g5 _ (g6 _ (g7 () rfl))))))) ?_
  exact os_same_list (congrArg _ h)
end Wz
local macro_rules | `(tactic| walk_at "eval ListComp") => `(tactic| (
  (k_dflt (refine Wz.ListComp_tup (by k_asm) (by with_unfolding_all rfl) (by decide) (by rfl) (by decide) (by rfl) ?_))
  (first | walk1 | (dsimp only; walk1))
  (k_dflt (refine Wz.tup_src (by rfl) (by k_asm) (by k_asm) (by k_mem) (by first | size_fits | exact Nat.le_of_ble_eq_true rfl) ?_; intro g9; lcg_lit))))
local macro_rules | `(tactic| walk_at "CompRest") => `(tactic| (
  (with_unfolding_all refine LCg.CompRest.succ ?_)
  (intro wv wI woI wC woC wD wm wh wt wE whv whC whx wF wN woff wne)
  (lcg_open whv)
  (have woff2 := woff)
  (try simp only [LCg.Off3, and_true] at woff)
  (refine' Wz.forget wF wN (fun wM => ?_))
  (try dsimp only)))
local macro_rules | `(tactic| walk_at "CompEnd") => `(tactic| (
  (rename LCg.Off3 _ _ _ _ => wo)
  (rename PyProof.Rows.News _ _ _ _ => wn)
  (k_dflt (refine Wz.comp_end (by assumption) wn wo (by lcg_src) ?_))))
set_option maxRecDepth 100000 in
set_option maxHeartbeats 64000000 in
theorem PySem.Challenge.cw_waterways_s07_tack_holds : PySem.Challenge.rw_waterways_s07_tack.Holds := by
  k_with "callWith ref nil" => (
    (with_reducible show wpAny _ _ (callWith _ (Value.ref _) _ (backTo _ (starEach [] _)) []) _ _ _)
    (k_dflt (refine' callWith_K0 ?wa ?wb ?_))
    (k_dflt (case wa => exact Frag.In.keeps (by k_asm) (PyProof.Rows.Fr.keep (by k_asm))))
    (k_dflt (case wb => k_is)))
  k_with "Forget" => (
    (refine' Wz.forget_end ?js ?jf ?jn ?jh ?_)
    (case js => rfl)
    (case jf => assumption)
    (case jn => assumption)
    (case jh => kcj_all)
    (rename Wz.Mark => jM)
    (clear jM)
    (intro jh2 jt jF2 jN2)
    (try dsimp only)
    (try k_sweep)
    (try k_fold))
  open_ks with [.int 0, .int 4, .int 0, .int 0, .int 1, .int 0, .int 1]
  all_goals first
    | exact Wz.tack_post (l := [-8]) hpre (Wz.tack_e1 (by assumption))
    | exact Wz.tack_post (l := [-8]) hpre (Wz.tack_e2 (by assumption))
    | exact Wz.tack_post (l := [-8]) hpre (Wz.tack_e3 (by assumption))
    | exact Wz.tack_post (l := [-8]) hpre (Wz.tack_e4 (by assumption))
    | exact Wz.tack_post (l := [-8]) hpre (Wz.tack_e5 (by assumption))
    | exact Wz.tack_post (l := [1]) hpre (Wz.tack_p (Wz.tack_in (by assumption) (by assumption) (by assumption) (by assumption) (by assumption)) (by assumption))
    | exact Wz.tack_post (l := [2]) hpre (Wz.tack_n (Wz.tack_in (by assumption) (by assumption) (by assumption) (by assumption) (by assumption)) (by assumption))
    | exact Wz.tack_post (l := [2]) hpre (Wz.tack_n2 (Wz.tack_in (by assumption) (by assumption) (by assumption) (by assumption) (by assumption)) (by assumption) (by assumption))
    | exact Wz.tack_post (l := [1]) hpre (Wz.tack_z1 (Wz.tack_in (by assumption) (by assumption) (by assumption) (by assumption) (by assumption)) (by assumption) (by assumption))
    | exact Wz.tack_post (l := [2]) hpre (Wz.tack_z2 (Wz.tack_in (by assumption) (by assumption) (by assumption) (by assumption) (by assumption)) (by assumption) (by assumption))
    | exact Wz.tack_post (l := [0]) hpre (Wz.tack_never (by assumption) (by assumption) (by assumption))
    | exact Wz.tack_post (l := [0]) hpre (Wz.tack_never_t (Wz.tack_in (by assumption) (by assumption) (by assumption) (by assumption) (by assumption)) (by assumption) (by assumption))
#print axioms PySem.Challenge.cw_waterways_s07_tack_holds
