/-
  Package solve, plain: facts that are due, edges as they are found: what stands at each time, and at the end.
-/
import Derived.Test.YtglonlpfnllocaaGreatDoorXMM
namespace Go.Proofs.YtglonlpfnllocaaGreatDoor
open Go.RowKit Go.Extern.Stop Go.Stop Go.Extern

abbrev Fact := Int × Int
structure SolD where
  has : List (List Int)
  due : List Fact
  known : Fact → Bool
  edges : Int → List Int
  rules : Int → List RuleD
def updF {α β : Type} [DecidableEq α] (f : α → β) (x : α) (v : β) : α → β := fun y => if y = x then v else f y
theorem updF_same {α β : Type} [DecidableEq α] (f : α → β) (x : α) (v : β) : updF f x v x = v := if_pos rfl
theorem updF_other {α β : Type} [DecidableEq α] (f : α → β) {x y : α} (v : β) (h : y ≠ x) : updF f x v y = f y := if_neg h
def SolD.await (s : SolD) (f : Fact) : SolD := if s.known f then s else { s with known := updF s.known f true, due := s.due ++ [f] }
def SolD.join (s : SolD) (p : Pair) : SolD :=
  if p.1 = p.2 ∨ p.2 ∈ s.edges p.1 then s
  else ((setAt s.has p.1).map fun o => (p.2, o)).foldl SolD.await { s with edges := updF s.edges p.1 (s.edges p.1 ++ [p.2]) }
def SolD.obey (n : Nat) (fs : List FunD) (s : SolD) (r : RuleD) : SolD :=
  if r.kind = kBase then s.await (r.a, r.b)
  else if r.kind = kCopy then s.join (r.a, r.b)
  else ((setAt s.has (askedD r)).flatMap (joinD n fs r)).foldl SolD.join { s with rules := updF s.rules (askedD r) (s.rules (askedD r) ++ [r]) }
/-- A number more in a set that lacks it. -/
def insD (l : List Int) (x : Int) : List Int := l.takeWhile (fun y => decide (y < x)) ++ x :: l.dropWhile (fun y => decide (y < x))
def SolD.come1 (s : SolD) : SolD := { s with due := s.due.dropLast, has := s.has.set (s.due.getLastD (0, 0)).1.toNat (insD (setAt s.has (s.due.getLastD (0, 0)).1) (s.due.getLastD (0, 0)).2) }
def SolD.come (n : Nat) (fs : List FunD) (s : SolD) : SolD :=
  ((s.rules (s.due.getLastD (0, 0)).1).flatMap fun r => joinD n fs r (s.due.getLastD (0, 0)).2).foldl SolD.join
    (((s.edges (s.due.getLastD (0, 0)).1).map fun t => (t, (s.due.getLastD (0, 0)).2)).foldl SolD.await s.come1)

/-- Facts: who has what. -/
structure CoreOk (n m : Nat) (s : SolD) : Prop where
  len : s.has.length = n
  row : ∀ j, (s.has.getD j []).Pairwise (· < ·)
  kn : ∀ a o, s.known (a, o) = true ↔ (0 ≤ a ∧ o ∈ setAt s.has a) ∨ (a, o) ∈ s.due
  nodup : s.due.Nodup
  apart : ∀ a o, (a, o) ∈ s.due → o ∉ setAt s.has a
  nod : ∀ a o, s.known (a, o) = true → (0 ≤ a ∧ a < (n : Int)) ∧ (0 ≤ o ∧ o < (n : Int) + m)
/-- Edges: what came is handed on. -/
structure EdgeOk (n : Nat) (s : SolD) : Prop where
  nod : ∀ a b, b ∈ s.edges a → (0 ≤ a ∧ a < (n : Int)) ∧ (0 ≤ b ∧ b < (n : Int))
  on : ∀ a b o, b ∈ s.edges a → o ∈ setAt s.has a → s.known (b, o) = true

theorem await_has (s : SolD) (f : Fact) : (s.await f).has = s.has := by unfold SolD.await; split <;> rfl
theorem await_edges (s : SolD) (f : Fact) : (s.await f).edges = s.edges := by unfold SolD.await; split <;> rfl
theorem await_rules (s : SolD) (f : Fact) : (s.await f).rules = s.rules := by unfold SolD.await; split <;> rfl
theorem await_known (s : SolD) (f g : Fact) : (s.await f).known g = true ↔ s.known g = true ∨ g = f := by
  unfold SolD.await
  split
  · rename_i h
    exact ⟨Or.inl, fun q => q.elim id fun e => e ▸ h⟩
  · show updF s.known f true g = true ↔ _
    unfold updF
    split
    · rename_i e; simp [e]
    · rename_i e; simp [e]
theorem CoreOk.await {n m : Nat} {s : SolD} (h : CoreOk n m s) {a o : Int} (ha : 0 ≤ a ∧ a < (n : Int)) (ho : 0 ≤ o ∧ o < (n : Int) + m) : CoreOk n m (s.await (a, o)) := by
  have hk := await_known s (a, o)
  by_cases e : s.known (a, o) = true
  · have : s.await (a, o) = s := by unfold SolD.await; rw [if_pos e]
    rw [this]; exact h
  have hd : (s.await (a, o)).due = s.due ++ [(a, o)] := by unfold SolD.await; rw [if_neg e]
  have hnot := fun q => e ((h.kn a o).2 q)
  refine ⟨by rw [await_has]; exact h.len, fun j => by rw [await_has]; exact h.row j, fun b x => ?_, ?_, fun b x hb => ?_, fun b x hb => ?_⟩
  · rw [hk, await_has, hd, List.mem_append, List.mem_singleton, h.kn, or_assoc]
  · rw [hd, List.nodup_append]
    refine ⟨h.nodup, List.nodup_cons.2 ⟨List.not_mem_nil, List.nodup_nil⟩, fun x hx y hy e2 => ?_⟩
    rw [List.mem_singleton.1 hy] at e2
    exact hnot (Or.inr (e2 ▸ hx))
  · rw [await_has]
    rw [hd, List.mem_append, List.mem_singleton] at hb
    rcases hb with q | q
    · exact h.apart b x q
    · injection q with q1 q2
      rw [q1, q2]
      exact fun q3 => hnot (Or.inl ⟨ha.1, q3⟩)
  · rcases (hk (b, x)).1 hb with q | q
    · exact h.nod b x q
    · injection q with q1 q2
      rw [q1, q2]
      exact ⟨ha, ho⟩
/-- Facts to one after another. -/
theorem awaits_ok {n m : Nat} (fs : List Fact) {s : SolD} (h : CoreOk n m s) (hf : ∀ a o, (a, o) ∈ fs → (0 ≤ a ∧ a < (n : Int)) ∧ (0 ≤ o ∧ o < (n : Int) + m)) :
    CoreOk n m (fs.foldl SolD.await s) ∧ (fs.foldl SolD.await s).has = s.has ∧ (fs.foldl SolD.await s).edges = s.edges ∧ (fs.foldl SolD.await s).rules = s.rules ∧ ∀ g, (fs.foldl SolD.await s).known g = true ↔ s.known g = true ∨ g ∈ fs := by
  induction fs generalizing s with
  | nil => exact ⟨h, rfl, rfl, rfl, fun g => by simp⟩
  | cons f r ih =>
    obtain ⟨a, o⟩ := f
    obtain ⟨q1, q2⟩ := hf a o (List.mem_cons_self ..)
    obtain ⟨i1, i2, i3, i4, i5⟩ := ih (h.await q1 q2) fun b x hb => hf b x (List.mem_cons_of_mem _ hb)
    refine ⟨i1, i2.trans (await_has _ _), i3.trans (await_edges _ _), i4.trans (await_rules _ _), fun g => ?_⟩
    rw [List.foldl_cons, i5 g, await_known, List.mem_cons, or_assoc]
/-- What stays where rules are followed: what came; more is known, more edges are found. -/
structure Grew (s s' : SolD) : Prop where
  has : s'.has = s.has
  rules : s'.rules = s.rules
  known : ∀ g, s.known g = true → s'.known g = true
  edges : ∀ a b, b ∈ s.edges a → b ∈ s'.edges a
theorem Grew.refl (s : SolD) : Grew s s := ⟨rfl, rfl, fun _ h => h, fun _ _ h => h⟩
theorem Grew.trans {a b c : SolD} (h1 : Grew a b) (h2 : Grew b c) : Grew a c := ⟨h2.has.trans h1.has, h2.rules.trans h1.rules, fun g h => h2.known g (h1.known g h), fun x y h => h2.edges x y (h1.edges x y h)⟩
theorem join_ok {n m : Nat} {s : SolD} (h : CoreOk n m s) (he : EdgeOk n s) (p : Pair) (hp : (0 ≤ p.1 ∧ p.1 < (n : Int)) ∧ (0 ≤ p.2 ∧ p.2 < (n : Int))) :
    CoreOk n m (s.join p) ∧ EdgeOk n (s.join p) ∧ Grew s (s.join p) ∧ (p.1 = p.2 ∨ p.2 ∈ (s.join p).edges p.1) ∧ (∀ a b, b ∈ (s.join p).edges a → b ∈ s.edges a ∨ (a, b) = p) ∧ (∀ b o, (s.join p).known (b, o) = true → s.known (b, o) = true ∨ (b = p.2 ∧ o ∈ setAt s.has p.1)) := by
  obtain ⟨x, y⟩ := p
  by_cases e : x = y ∨ y ∈ s.edges x
  · have : s.join (x, y) = s := by unfold SolD.join; exact if_pos e
    rw [this]
    exact ⟨h, he, Grew.refl s, e, fun _ _ q => Or.inl q, fun _ _ q => Or.inl q⟩
  obtain ⟨s1, hs1⟩ : ∃ s1 : SolD, s1 = { s with edges := updF s.edges x (s.edges x ++ [y]) } := ⟨_, rfl⟩
  have hj : s.join (x, y) = ((setAt s.has x).map fun o => (y, o)).foldl SolD.await s1 := by unfold SolD.join; rw [hs1]; exact if_neg e
  have c1 : CoreOk n m s1 := by rw [hs1]; exact ⟨h.len, h.row, h.kn, h.nodup, h.apart, h.nod⟩
  obtain ⟨i1, i2, i3, i4, i5⟩ := awaits_ok ((setAt s.has x).map fun o => (y, o)) c1 fun b z hb => by
    obtain ⟨o, ho, q⟩ := List.mem_map.1 hb
    injection q with q1 q2
    rw [← q1, ← q2]
    exact ⟨hp.2, (h.nod x o ((h.kn x o).2 (Or.inl ⟨hp.1.1, ho⟩))).2⟩
  rw [hj]
  have eh : s1.has = s.has := by rw [hs1]
  have ek : s1.known = s.known := by rw [hs1]
  have er : s1.rules = s.rules := by rw [hs1]
  have ee : ∀ a b, b ∈ s1.edges a ↔ b ∈ s.edges a ∨ (a = x ∧ b = y) := fun a b => by
    rw [hs1]
    show b ∈ updF s.edges x (s.edges x ++ [y]) a ↔ _
    unfold updF
    split
    · rename_i q; rw [q]; simp
    · rename_i q; simp [q]
  refine ⟨i1, ⟨fun a b hb => ?_, fun a b o hb ho => ?_⟩, ⟨i2.trans eh, i4.trans er, fun g hg => (i5 g).2 (Or.inl (by rw [ek]; exact hg)), fun a b hb => by rw [i3]; exact (ee a b).2 (Or.inl hb)⟩, Or.inr (by rw [i3]; exact (ee x y).2 (Or.inr ⟨rfl, rfl⟩)), fun a b hb => ?_, fun b o hb => ?_⟩
  · rw [i3] at hb
    rcases (ee a b).1 hb with q | ⟨rfl, rfl⟩
    · exact he.nod a b q
    · exact hp
  · rw [i3] at hb
    rw [i2, eh] at ho
    rw [i5, ek]
    rcases (ee a b).1 hb with q | ⟨rfl, rfl⟩
    · exact Or.inl (he.on a b o q ho)
    · exact Or.inr (List.mem_map.2 ⟨o, ho, rfl⟩)
  · rw [i3] at hb
    rcases (ee a b).1 hb with q | ⟨rfl, rfl⟩
    · exact Or.inl q
    · exact Or.inr rfl
  · rw [i5, ek] at hb
    rcases hb with q | q
    · exact Or.inl q
    · obtain ⟨z, hz, q⟩ := List.mem_map.1 q
      injection q with q1 q2
      exact Or.inr ⟨q1.symm, q2 ▸ hz⟩
/-- L has what is known, and hands on along the edges. -/
structure SoundD (L : List (List Int)) (s : SolD) : Prop where
  has : ∀ a o, s.known (a, o) = true → o ∈ setAt L a
  edge : ∀ a b, b ∈ s.edges a → ∀ x ∈ setAt L a, x ∈ setAt L b
theorem SoundD.join {n m : Nat} {L : List (List Int)} {s : SolD} (h : CoreOk n m s) (he : EdgeOk n s) (hs : SoundD L s) (p : Pair) (hp : (0 ≤ p.1 ∧ p.1 < (n : Int)) ∧ (0 ≤ p.2 ∧ p.2 < (n : Int))) (hL : ∀ x ∈ setAt L p.1, x ∈ setAt L p.2) : SoundD L (s.join p) := by
  obtain ⟨-, -, -, -, j5, j6⟩ := join_ok h he p hp
  refine ⟨fun a o ho => ?_, fun a b hb => ?_⟩
  · rcases j6 a o ho with q | ⟨rfl, q⟩
    · exact hs.has a o q
    · exact hL o (hs.has _ o ((h.kn _ o).2 (Or.inl ⟨hp.1.1, q⟩)))
  · rcases j5 a b hb with q | q
    · exact hs.edge a b q
    · rw [← q] at hL; exact hL
theorem joins_ok {n m : Nat} {L : List (List Int)} (ps : List Pair) {s : SolD} (h : CoreOk n m s) (he : EdgeOk n s) (hs : SoundD L s) (hp : ∀ p ∈ ps, (0 ≤ p.1 ∧ p.1 < (n : Int)) ∧ (0 ≤ p.2 ∧ p.2 < (n : Int))) (hL : ∀ p ∈ ps, ∀ x ∈ setAt L p.1, x ∈ setAt L p.2) :
    CoreOk n m (ps.foldl SolD.join s) ∧ EdgeOk n (ps.foldl SolD.join s) ∧ SoundD L (ps.foldl SolD.join s) ∧ Grew s (ps.foldl SolD.join s) ∧ ∀ p ∈ ps, p.1 = p.2 ∨ p.2 ∈ (ps.foldl SolD.join s).edges p.1 := by
  induction ps generalizing s with
  | nil => exact ⟨h, he, hs, Grew.refl s, fun p hp => by cases hp⟩
  | cons p r ih =>
    have hp0 := hp p (List.mem_cons_self ..)
    obtain ⟨j1, j2, j3, j4, -, -⟩ := join_ok h he p hp0
    have js := hs.join h he p hp0 (hL p (List.mem_cons_self ..))
    obtain ⟨i1, i2, i3, i4, i5⟩ := ih j1 j2 js (fun q hq => hp q (List.mem_cons_of_mem _ hq)) (fun q hq => hL q (List.mem_cons_of_mem _ hq))
    refine ⟨i1, i2, i3, j3.trans i4, fun q hq => ?_⟩
    rcases List.mem_cons.1 hq with rfl | q2
    · exact j4.elim Or.inl fun e => Or.inr (i4.edges _ _ e)
    · exact i5 q q2
/-- What a rule may name. -/
structure RuleFit (n : Nat) (fs : List FunD) (r : RuleD) : Prop where
  a : 0 ≤ r.a ∧ r.a < (n : Int)
  b : r.kind ≠ kBase → 0 ≤ r.b ∧ r.b < (n : Int)
  o : r.kind = kBase → 0 ≤ r.b ∧ r.b < (n : Int) + fs.length
  join : ∀ x, 0 ≤ x ∧ x < (n : Int) + fs.length → ∀ p ∈ joinD n fs r x, (0 ≤ p.1 ∧ p.1 < (n : Int)) ∧ (0 ≤ p.2 ∧ p.2 < (n : Int))
/-- A rule that asks. -/
def asks (r : RuleD) : Prop := r.kind ≠ kBase ∧ r.kind ≠ kCopy
/-- A rule is obeyed. -/
structure RuleIn (n : Nat) (fs : List FunD) (s : SolD) (r : RuleD) : Prop where
  base : r.kind = kBase → s.known (r.a, r.b) = true
  copy : r.kind = kCopy → r.a = r.b ∨ r.b ∈ s.edges r.a
  ask : asks r → r ∈ s.rules (askedD r) ∧ ∀ o ∈ setAt s.has (askedD r), ∀ p ∈ joinD n fs r o, p.1 = p.2 ∨ p.2 ∈ s.edges p.1
theorem RuleIn.grew {n : Nat} {fs : List FunD} {s s' : SolD} {r : RuleD} (h : RuleIn n fs s r) (g : Grew s s') : RuleIn n fs s' r := by
  refine ⟨fun e => g.known _ (h.base e), fun e => (h.copy e).elim Or.inl fun q => Or.inr (g.edges _ _ q), fun e => ?_⟩
  obtain ⟨q1, q2⟩ := h.ask e
  rw [g.rules, g.has]
  exact ⟨q1, fun o ho p hp => (q2 o ho p hp).elim Or.inl fun q => Or.inr (g.edges _ _ q)⟩
/-- An answer that is closed under a rule. -/
structure ClR (n : Nat) (fs : List FunD) (L : List (List Int)) (r : RuleD) : Prop where
  base : r.kind = kBase → r.b ∈ setAt L r.a
  copy : r.kind = kCopy → ∀ x ∈ setAt L r.a, x ∈ setAt L r.b
  ask : asks r → ∀ o ∈ setAt L (askedD r), ∀ p ∈ joinD n fs r o, ∀ x ∈ setAt L p.1, x ∈ setAt L p.2
/-- The solver stands well: rules R are obeyed, and L, closed under them, has all that it has. -/
structure SolOk (n : Nat) (fs : List FunD) (L : List (List Int)) (R : List RuleD) (s : SolD) : Prop where
  core : CoreOk n fs.length s
  edge : EdgeOk n s
  sound : SoundD L s
  fit : ∀ r ∈ R, RuleFit n fs r
  cl : ∀ r ∈ R, ClR n fs L r
  rule : ∀ r ∈ R, RuleIn n fs s r
  rules : ∀ a r, r ∈ s.rules a → r ∈ R ∧ askedD r = a ∧ asks r
def sol0 (n : Nat) : SolD := ⟨List.replicate n [], [], fun _ => false, fun _ => [], fun _ => []⟩
theorem rep_at (n j : Nat) : (List.replicate n ([] : List Int)).getD j [] = [] := by
  by_cases h : j < n
  · simp [List.getD, h]
  · exact getD_none _ _ (by simpa using h)
theorem SolOk.start (n : Nat) (fs : List FunD) (L : List (List Int)) : SolOk n fs L [] (sol0 n) := by
  have e : ∀ a, setAt (sol0 n).has a = [] := fun a => rep_at n _
  refine ⟨⟨by simp [sol0], fun j => by show ((List.replicate n ([] : List Int)).getD j []).Pairwise _; rw [rep_at]; exact List.Pairwise.nil, fun a o => ?_, List.nodup_nil, (fun a o h => by cases h), fun a o h => by cases h⟩, ⟨(fun a b h => by cases h), fun a b o h => by cases h⟩, ⟨(fun a o h => by cases h), fun a b h => by cases h⟩, (fun r h => by cases h), (fun r h => by cases h), (fun r h => by cases h), fun a r h => by cases h⟩
  rw [e a]
  simp [sol0]
theorem asked_nod {n : Nat} {fs : List FunD} {r : RuleD} (h : RuleFit n fs r) (ha : asks r) (hk : r.kind = kLoad ∨ r.kind = kStore ∨ r.kind = kCall) : 0 ≤ askedD r ∧ askedD r < (n : Int) := by
  unfold askedD
  by_cases e1 : r.kind = kLoad
  · rw [if_pos e1]; exact h.a
  rw [if_neg e1]
  by_cases e2 : r.kind = kCall
  · rw [if_pos e2]; exact h.a
  rw [if_neg e2]
  by_cases e3 : r.kind = kStore
  · rw [if_pos e3]; exact h.b ha.1
  · rcases hk with q | q | q
    · exact absurd q e1
    · exact absurd q e3
    · exact absurd q e2
/-- A rule more. -/
theorem SolOk.obey {n : Nat} {fs : List FunD} {L : List (List Int)} {R : List RuleD} {s : SolD} (h : SolOk n fs L R s) {r : RuleD} (hf : RuleFit n fs r) (hc : ClR n fs L r) (hk : asks r → r.kind = kLoad ∨ r.kind = kStore ∨ r.kind = kCall) : SolOk n fs L (R ++ [r]) (s.obey n fs r) ∧ (s.obey n fs r).has = s.has := by
  have fin : ∀ s1 : SolD, CoreOk n fs.length s1 → EdgeOk n s1 → SoundD L s1 → s1.has = s.has → (∀ q ∈ R, RuleIn n fs s1 q) → RuleIn n fs s1 r → (∀ a q, q ∈ s1.rules a → q ∈ R ++ [r] ∧ askedD q = a ∧ asks q) → SolOk n fs L (R ++ [r]) s1 ∧ s1.has = s.has := fun s1 a1 a2 a3 a4 a5 a6 a7 => by
    refine ⟨⟨a1, a2, a3, fun q hq => ?_, fun q hq => ?_, fun q hq => ?_, a7⟩, a4⟩
    · rcases List.mem_append.1 hq with q1 | q1
      · exact h.fit q q1
      · rw [List.mem_singleton.1 q1]; exact hf
    · rcases List.mem_append.1 hq with q1 | q1
      · exact h.cl q q1
      · rw [List.mem_singleton.1 q1]; exact hc
    · rcases List.mem_append.1 hq with q1 | q1
      · exact a5 q q1
      · rw [List.mem_singleton.1 q1]; exact a6
  have hru : ∀ a q, q ∈ s.rules a → q ∈ R ++ [r] ∧ askedD q = a ∧ asks q := fun a q hq => by
    obtain ⟨b1, b2⟩ := h.rules a q hq
    exact ⟨List.mem_append_left _ b1, b2⟩
  unfold SolD.obey
  by_cases e1 : r.kind = kBase
  · rw [if_pos e1]
    have g : Grew s (s.await (r.a, r.b)) := ⟨await_has _ _, await_rules _ _, fun g hg => (await_known _ _ _).2 (Or.inl hg), fun a b hb => by rw [await_edges]; exact hb⟩
    refine fin _ (h.core.await hf.a (hf.o e1)) ⟨fun a b hb => h.edge.nod a b (by rw [await_edges] at hb; exact hb), fun a b o hb ho => ?_⟩ ⟨fun a o ho => ?_, fun a b hb => ?_⟩ g.has (fun q hq => (h.rule q hq).grew g) ⟨fun _ => (await_known _ _ _).2 (Or.inr rfl), fun e => absurd (e1.symm.trans e) (by decide), fun e => absurd e1 e.1⟩ ?_
    · rw [await_edges] at hb
      rw [await_has] at ho
      exact g.known _ (h.edge.on a b o hb ho)
    · rcases (await_known _ _ _).1 ho with q | q
      · exact h.sound.has a o q
      · injection q with q1 q2
        rw [q1, q2]
        exact hc.base e1
    · rw [await_edges] at hb
      exact h.sound.edge a b hb
    · rw [await_rules]; exact hru
  rw [if_neg e1]
  by_cases e2 : r.kind = kCopy
  · rw [if_pos e2]
    obtain ⟨j1, j2, j3, j4, -, -⟩ := join_ok h.core h.edge (r.a, r.b) ⟨hf.a, hf.b e1⟩
    refine fin _ j1 j2 (h.sound.join h.core h.edge _ ⟨hf.a, hf.b e1⟩ (hc.copy e2)) j3.has (fun q hq => (h.rule q hq).grew j3) ⟨fun e => absurd e e1, fun _ => j4, fun e => absurd e2 e.2⟩ ?_
    rw [j3.rules]; exact hru
  rw [if_neg e2]
  have ha : asks r := ⟨e1, e2⟩
  have hn := asked_nod hf ha (hk ha)
  obtain ⟨s1, hs1⟩ : ∃ s1 : SolD, s1 = { s with rules := updF s.rules (askedD r) (s.rules (askedD r) ++ [r]) } := ⟨_, rfl⟩
  rw [← hs1]
  have eh : s1.has = s.has := by rw [hs1]
  have hru1 : ∀ a q, q ∈ s1.rules a ↔ q ∈ s.rules a ∨ (a = askedD r ∧ q = r) := fun a q => by
    rw [hs1]
    show q ∈ updF s.rules (askedD r) (s.rules (askedD r) ++ [r]) a ↔ _
    unfold updF
    split
    · rename_i e; rw [e]; simp
    · rename_i e; simp [e]
  have c1 : CoreOk n fs.length s1 := by rw [hs1]; exact ⟨h.core.len, h.core.row, h.core.kn, h.core.nodup, h.core.apart, h.core.nod⟩
  have d1 : EdgeOk n s1 := by rw [hs1]; exact ⟨h.edge.nod, h.edge.on⟩
  have f1 : SoundD L s1 := by rw [hs1]; exact ⟨h.sound.has, h.sound.edge⟩
  obtain ⟨i1, i2, i3, i4, i5⟩ := joins_ok ((setAt s.has (askedD r)).flatMap (joinD n fs r)) c1 d1 f1 (fun p hp => by
    obtain ⟨o, ho, hj⟩ := List.mem_flatMap.1 hp
    exact hf.join o (h.core.nod _ o ((h.core.kn _ o).2 (Or.inl ⟨hn.1, ho⟩))).2 p hj) (fun p hp => by
    obtain ⟨o, ho, hj⟩ := List.mem_flatMap.1 hp
    exact hc.ask ha o (h.sound.has _ o ((h.core.kn _ o).2 (Or.inl ⟨hn.1, ho⟩))) p hj)
  refine fin _ i1 i2 i3 (i4.has.trans eh) (fun q hq => ?_) ⟨fun e => absurd e e1, fun e => absurd e e2, fun _ => ⟨?_, fun o ho p hp => ?_⟩⟩ ?_
  · have h0 := h.rule q hq
    have h1 : RuleIn n fs s1 q := ⟨fun e => by rw [hs1]; exact h0.base e, fun e => by rw [hs1]; exact h0.copy e, fun e => by
      obtain ⟨b1, b2⟩ := h0.ask e
      refine ⟨(hru1 _ _).2 (Or.inl b1), ?_⟩
      rw [hs1]; exact b2⟩
    exact h1.grew i4
  · rw [i4.rules]
    exact (hru1 _ _).2 (Or.inr ⟨rfl, rfl⟩)
  · rw [i4.has, eh] at ho
    exact i5 p (List.mem_flatMap.2 ⟨o, ho, hp⟩)
  · rw [i4.rules]
    intro a q hq
    rcases (hru1 a q).1 hq with b | ⟨rfl, rfl⟩
    · exact hru a q b
    · exact ⟨List.mem_append_right _ (List.mem_singleton.2 rfl), rfl, ha⟩
end Go.Proofs.YtglonlpfnllocaaGreatDoor
