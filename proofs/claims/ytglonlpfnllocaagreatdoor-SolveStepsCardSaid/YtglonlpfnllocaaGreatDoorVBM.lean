/-
  Package solve, plain: a fact comes; so many facts; the end is the least answer.
-/
import Derived.Test.YtglonlpfnllocaaGreatDoorVAM
namespace Go.Proofs.YtglonlpfnllocaaGreatDoor
open Go.RowKit Go.Extern.Stop Go.Stop Go.Extern

theorem ins_mem (l : List Int) (x y : Int) : y ∈ insD l x ↔ y = x ∨ y ∈ l := by
  unfold insD
  have h : y ∈ l ↔ y ∈ l.takeWhile (fun y => decide (y < x)) ∨ y ∈ l.dropWhile (fun y => decide (y < x)) := by
    rw [← List.mem_append, List.takeWhile_append_dropWhile]
  rw [List.mem_append, List.mem_cons, h]
  constructor
  · rintro (a | a | a)
    · exact Or.inr (Or.inl a)
    · exact Or.inl a
    · exact Or.inr (Or.inr a)
  · rintro (a | a | a)
    · exact Or.inr (Or.inl a)
    · exact Or.inl a
    · exact Or.inr (Or.inr a)
theorem ins_len (l : List Int) (x : Int) : (insD l x).length = l.length + 1 := by
  unfold insD
  have := congrArg List.length (List.takeWhile_append_dropWhile (p := fun y => decide (y < x)) (l := l))
  rw [List.length_append] at this
  rw [List.length_append, List.length_cons]
  omega
theorem ins_rise {l : List Int} (h : l.Pairwise (· < ·)) {x : Int} (hx : x ∉ l) : (insD l x).Pairwise (· < ·) := by
  induction l with
  | nil => simp [insD]
  | cons a r ih =>
    have p := List.pairwise_cons.1 h
    have hax : a ≠ x := fun e => hx (e ▸ List.mem_cons_self ..)
    by_cases e : a < x
    · have : insD (a :: r) x = a :: insD r x := by simp [insD, e]
      rw [this]
      refine List.pairwise_cons.2 ⟨fun y hy => ?_, ih p.2 fun q => hx (List.mem_cons_of_mem _ q)⟩
      rcases (ins_mem r x y).1 hy with rfl | q
      · exact e
      · exact p.1 y q
    · have : insD (a :: r) x = x :: a :: r := by simp [insD, e]
      rw [this]
      refine List.pairwise_cons.2 ⟨fun y hy => ?_, h⟩
      rcases List.mem_cons.1 hy with rfl | q
      · omega
      · have := p.1 y q
        omega
theorem due_last {d : List Fact} (h : d ≠ []) : d = d.dropLast ++ [d.getLastD (0, 0)] := by
  have := (List.dropLast_concat_getLast h).symm
  rw [List.getLastD_eq_getLast?, List.getLast?_eq_some_getLast h]
  exact this
theorem set_at (hs : List (List Int)) (k : Nat) (v : List Int) (a : Int) (hk : k < hs.length) : setAt (hs.set k v) a = if a.toNat = k then v else setAt hs a := by
  unfold setAt
  by_cases e : a.toNat = k
  · rw [if_pos e, e]; simp [List.getD, hk]
  · rw [if_neg e]; simp [List.getD, List.getElem?_set_ne (Ne.symm e)]
/-- A fact comes: one that was due. -/
theorem SolOk.come {n : Nat} {fs : List FunD} {L : List (List Int)} {R : List RuleD} {s : SolD} (h : SolOk n fs L R s) (hd : s.due ≠ []) (hask : ∀ r ∈ R, asks r → 0 ≤ askedD r ∧ askedD r < (n : Int)) :
    SolOk n fs L R (s.come n fs) ∧ (s.come n fs).has = s.come1.has ∧ totD (s.come n fs).has = totD s.has + 1 := by
  have hdl := due_last hd
  obtain ⟨⟨a, o⟩, hao⟩ : ∃ f, f = s.due.getLastD (0, 0) := ⟨_, rfl⟩
  have hc1 : s.come1 = { s with due := s.due.dropLast, has := s.has.set a.toNat (insD (setAt s.has a) o) } := by unfold SolD.come1; rw [← hao]
  have hco : s.come n fs = ((s.rules a).flatMap fun r => joinD n fs r o).foldl SolD.join (((s.edges a).map fun t => (t, o)).foldl SolD.await s.come1) := by unfold SolD.come; rw [← hao]
  rw [← hao] at hdl
  have hin : (a, o) ∈ s.due := by rw [hdl]; exact List.mem_append_right _ (List.mem_singleton.2 rfl)
  have hkn : s.known (a, o) = true := (h.core.kn a o).2 (Or.inr hin)
  obtain ⟨⟨a0, a1⟩, o0, o1⟩ := h.core.nod a o hkn
  have hnot := h.core.apart a o hin
  have hlen := h.core.len
  have hal : a.toNat < s.has.length := by omega
  have hnd : s.due.dropLast.Nodup ∧ (a, o) ∉ s.due.dropLast := by
    have := h.core.nodup
    rw [hdl, List.nodup_append] at this
    exact ⟨this.1, fun q => this.2.2 _ q _ (List.mem_singleton.2 rfl) rfl⟩
  have hat : ∀ b, setAt (s.has.set a.toNat (insD (setAt s.has a) o)) b = if b.toNat = a.toNat then insD (setAt s.has a) o else setAt s.has b := fun b => set_at _ _ _ _ hal
  have hmem : ∀ b x, 0 ≤ b → (x ∈ setAt (s.has.set a.toNat (insD (setAt s.has a) o)) b ↔ x ∈ setAt s.has b ∨ (b, x) = (a, o)) := fun b x hb => by
    rw [hat b]
    by_cases e : b.toNat = a.toNat
    · have : b = a := by omega
      subst this
      rw [if_pos rfl, ins_mem]
      constructor
      · rintro (rfl | q)
        · exact Or.inr rfl
        · exact Or.inl q
      · rintro (q | q)
        · exact Or.inr q
        · injection q with _ q2
          exact Or.inl q2
    · rw [if_neg e]
      exact ⟨Or.inl, fun q => q.elim id fun q => by injection q with q1 _; exact absurd (by rw [q1]) e⟩
  have eh : s.come1.has = s.has.set a.toNat (insD (setAt s.has a) o) := by rw [hc1]
  have ek : s.come1.known = s.known := by rw [hc1]
  have ee : s.come1.edges = s.edges := by rw [hc1]
  have er : s.come1.rules = s.rules := by rw [hc1]
  have ed : s.come1.due = s.due.dropLast := by rw [hc1]
  have c1 : CoreOk n fs.length s.come1 := by
    refine ⟨by rw [eh, List.length_set]; exact hlen, fun j => ?_, fun b x => ?_, by rw [ed]; exact hnd.1, fun b x hb => ?_, by rw [ek]; exact h.core.nod⟩
    · rw [eh]
      have e1 : (s.has.set a.toNat (insD (setAt s.has a) o)).getD j [] = setAt (s.has.set a.toNat (insD (setAt s.has a) o)) (j : Int) := by show _ = List.getD _ ((j : Int).toNat) []; rw [Int.toNat_natCast]
      rw [e1, hat]
      split
      · exact ins_rise (h.core.row _) hnot
      · exact h.core.row j
    · rw [ek, eh, ed, h.core.kn]
      have hdm : (b, x) ∈ s.due ↔ (b, x) ∈ s.due.dropLast ∨ (b, x) = (a, o) := by
        constructor
        · intro q
          rw [hdl] at q
          rcases List.mem_append.1 q with q | q
          · exact Or.inl q
          · exact Or.inr (List.mem_singleton.1 q)
        · rintro (q | q)
          · rw [hdl]; exact List.mem_append_left _ q
          · rw [q]; exact hin
      rw [hdm]
      by_cases hb : 0 ≤ b
      · rw [hmem b x hb]
        constructor
        · rintro (⟨-, q⟩ | q | q)
          · exact Or.inl ⟨hb, Or.inl q⟩
          · exact Or.inr q
          · exact Or.inl ⟨hb, Or.inr q⟩
        · rintro (⟨-, q | q⟩ | q)
          · exact Or.inl ⟨hb, q⟩
          · exact Or.inr (Or.inr q)
          · exact Or.inr (Or.inl q)
      · have : (b, x) ≠ (a, o) := fun q => by injection q with q1 _; omega
        simp [hb, this]
    · rw [ed] at hb
      rw [eh]
      have hbd : (b, x) ∈ s.due := by rw [hdl]; exact List.mem_append_left _ hb
      have hb0 := (h.core.nod b x ((h.core.kn b x).2 (Or.inr hbd))).1.1
      rw [hmem b x hb0]
      rintro (q | q)
      · exact h.core.apart b x hbd q
      · exact hnd.2 (q ▸ hb)
  obtain ⟨i1, i2, i3, i4, i5⟩ := awaits_ok ((s.edges a).map fun t => (t, o)) c1 fun b x hb => by
    obtain ⟨t, ht, q⟩ := List.mem_map.1 hb
    injection q with q1 q2
    rw [← q1, ← q2]
    exact ⟨(h.edge.nod a t ht).2, o0, o1⟩
  obtain ⟨s2, hs2⟩ : ∃ s2, s2 = ((s.edges a).map fun t => (t, o)).foldl SolD.await s.come1 := ⟨_, rfl⟩
  rw [← hs2] at i1 i2 i3 i4 i5 hco
  have d2 : EdgeOk n s2 := by
    refine ⟨fun b c hb => h.edge.nod b c (by rw [i3, ee] at hb; exact hb), fun b c x hb hx => ?_⟩
    rw [i3, ee] at hb
    rw [i2, eh] at hx
    rw [i5, ek]
    have hb0 := (h.edge.nod b c hb).1.1
    rcases (hmem b x hb0).1 hx with q | q
    · exact Or.inl (h.edge.on b c x hb q)
    · injection q with q1 q2
      subst q1; subst q2
      exact Or.inr (List.mem_map.2 ⟨c, hb, rfl⟩)
  have f2 : SoundD L s2 := by
    refine ⟨fun b x hb => ?_, fun b c hb => h.sound.edge b c (by rw [i3, ee] at hb; exact hb)⟩
    rw [i5, ek] at hb
    rcases hb with q | q
    · exact h.sound.has b x q
    · obtain ⟨t, ht, q⟩ := List.mem_map.1 q
      injection q with q1 q2
      rw [← q1, ← q2]
      exact h.sound.edge a t ht o (h.sound.has a o hkn)
  obtain ⟨j1, j2, j3, j4, j5⟩ := joins_ok ((s.rules a).flatMap fun r => joinD n fs r o) i1 d2 f2 (fun p hp => by
    obtain ⟨r, hr, hj⟩ := List.mem_flatMap.1 hp
    exact (h.fit r (h.rules a r hr).1).join o ⟨o0, o1⟩ p hj) (fun p hp => by
    obtain ⟨r, hr, hj⟩ := List.mem_flatMap.1 hp
    obtain ⟨q1, q2, q3⟩ := h.rules a r hr
    exact (h.cl r q1).ask q3 o (by rw [q2]; exact h.sound.has a o hkn) p hj)
  rw [← hco] at j1 j2 j3 j4 j5
  have hh : (s.come n fs).has = s.come1.has := j4.has.trans i2
  refine ⟨⟨j1, j2, j3, h.fit, h.cl, fun r hr => ⟨fun e => ?_, fun e => ?_, fun e => ?_⟩, fun b r hr => h.rules b r (by rw [j4.rules, i4, er] at hr; exact hr)⟩, hh, ?_⟩
  · exact j4.known _ ((i5 _).2 (Or.inl (by rw [ek]; exact (h.rule r hr).base e)))
  · exact ((h.rule r hr).copy e).elim Or.inl fun q => Or.inr (j4.edges _ _ (by rw [i3, ee]; exact q))
  · obtain ⟨q1, q2⟩ := (h.rule r hr).ask e
    refine ⟨by rw [j4.rules, i4, er]; exact q1, fun x hx p hp => ?_⟩
    rw [hh, eh] at hx
    rcases (hmem _ x (hask r hr e).1).1 hx with q | q
    · exact (q2 x q p hp).elim Or.inl fun q => Or.inr (j4.edges _ _ (by rw [i3, ee]; exact q))
    · injection q with z1 z2
      rw [z1] at q1
      subst z2
      exact j5 p (List.mem_flatMap.2 ⟨r, q1, hp⟩)
  · rw [hh, eh]
    have key : ∀ (hs : List (List Int)) (k : Nat) (v : List Int), k < hs.length → v.length = (hs.getD k []).length + 1 → totD (hs.set k v) = totD hs + 1 := by
      intro hs
      induction hs with
      | nil => intro k v hk; exact absurd hk (Nat.not_lt_zero _)
      | cons b r ih =>
        intro k v hk hv
        cases k with
        | zero =>
          have : v.length = b.length + 1 := by simpa [List.getD] using hv
          simp only [totD, List.set_cons_zero, List.map_cons, List.sum_cons]
          omega
        | succ k =>
          have := ih k v (by simpa using hk) (by simpa [List.getD] using hv)
          simp only [totD, List.set_cons_succ, List.map_cons, List.sum_cons] at this ⊢
          omega
    exact key _ _ _ hal (ins_len _ _)
/-- What came is within the answer. -/
theorem SolOk.sub {n : Nat} {fs : List FunD} {L : List (List Int)} {R : List RuleD} {s : SolD} (h : SolOk n fs L R s) (hL : L.length = n) : Sub s.has L := by
  refine ⟨h.core.len.trans hL.symm, fun j x hx => ?_⟩
  have := h.sound.has (j : Int) x ((h.core.kn _ _).2 (Or.inl ⟨Int.natCast_nonneg _, by unfold setAt; rw [Int.toNat_natCast]; exact hx⟩))
  unfold setAt at this
  rw [Int.toNat_natCast] at this
  exact this
/-- When nothing is due, what came is closed under each rule. -/
theorem SolOk.closed {n : Nat} {fs : List FunD} {L : List (List Int)} {R : List RuleD} {s : SolD} (h : SolOk n fs L R s) (hd : s.due = []) : ∀ r ∈ R, ClR n fs s.has r := fun r hr => by
  have hk : ∀ a o, s.known (a, o) = true → o ∈ setAt s.has a := fun a o q => by
    rcases (h.core.kn a o).1 q with ⟨-, q⟩ | q
    · exact q
    · rw [hd] at q; cases q
  have hr1 := h.rule r hr
  refine ⟨fun e => hk _ _ (hr1.base e), fun e x hx => ?_, fun e o ho p hp x hx => ?_⟩
  · rcases hr1.copy e with q | q
    · rw [← q]; exact hx
    · exact hk _ _ (h.edge.on _ _ x q hx)
  · rcases (hr1.ask e).2 o ho p hp with q | q
    · rw [← q]; exact hx
    · exact hk _ _ (h.edge.on _ _ x q hx)
theorem asked_iff {r : RuleD} (hk : asks r → r.kind = kLoad ∨ r.kind = kStore ∨ r.kind = kCall) {n : Nat} {fs : List FunD} (hf : RuleFit n fs r) : (askedD r < 0) ↔ ¬ asks r := by
  constructor
  · intro h ha
    have := asked_nod hf ha (hk ha)
    omega
  · intro ha
    have h1 : r.kind = kBase ∨ r.kind = kCopy := by
      by_cases e : r.kind = kBase
      · exact Or.inl e
      · by_cases e2 : r.kind = kCopy
        · exact Or.inr e2
        · exact absurd ⟨e, e2⟩ ha
    unfold askedD
    rcases h1 with e | e <;> rw [e, if_neg (by decide), if_neg (by decide), if_neg (by decide)] <;> decide
/-- Closed under each rule of a program, and closed. -/
theorem clR_of {P : ProgD} {hs : List (List Int)} (hc : closedB P hs = true) (hf : ∀ r ∈ rulesD P, RuleFit hs.length P.funs r) (hk : ∀ r ∈ rulesD P, asks r → r.kind = kLoad ∨ r.kind = kStore ∨ r.kind = kCall) : ∀ r ∈ rulesD P, ClR hs.length P.funs hs r := fun r hr => by
  obtain ⟨h1, h2⟩ := (closedB_iff P hs).1 hc
  refine ⟨h1 r hr, fun e x hx => ?_, fun e o ho p hp x hx => ?_⟩
  · refine h2 (r.a, r.b) (List.mem_flatMap.2 ⟨r, hr, List.mem_append_left _ ?_⟩) x hx
    unfold copyD
    rw [if_pos e]
    exact List.mem_singleton.2 rfl
  · refine h2 p (List.mem_flatMap.2 ⟨r, hr, List.mem_append_right _ ?_⟩) x hx
    rw [if_neg fun q => (asked_iff (hk r hr) (hf r hr)).1 q e]
    exact List.mem_flatMap.2 ⟨o, ho, hp⟩
theorem closed_of {P : ProgD} {hs : List (List Int)} (hf : ∀ r ∈ rulesD P, RuleFit hs.length P.funs r) (hk : ∀ r ∈ rulesD P, asks r → r.kind = kLoad ∨ r.kind = kStore ∨ r.kind = kCall) (h : ∀ r ∈ rulesD P, ClR hs.length P.funs hs r) : closedB P hs = true := by
  refine (closedB_iff P hs).2 ⟨fun r hr e => (h r hr).base e, fun p hp x hx => ?_⟩
  obtain ⟨r, hr, hp⟩ := List.mem_flatMap.1 hp
  unfold followD at hp
  rcases List.mem_append.1 hp with q | q
  · unfold copyD at q
    split at q
    · rename_i e
      rw [List.mem_singleton.1 q] at hx ⊢
      exact (h r hr).copy e x hx
    · cases q
  · split at q
    · cases q
    · rename_i e
      obtain ⟨o, ho, hj⟩ := List.mem_flatMap.1 q
      refine (h r hr).ask ?_ o ho p hj x hx
      apply Classical.byContradiction
      exact fun z => e ((asked_iff (hk r hr) (hf r hr)).2 z)
theorem ask_kinds {P : ProgD} (hc : checkE P = none) (r : RuleD) (hr : r ∈ rulesD P) (ha : asks r) : r.kind = kLoad ∨ r.kind = kStore ∨ r.kind = kCall := by
  obtain ⟨k, hk, rfl⟩ := List.mem_map.1 hr
  obtain ⟨k1, -⟩ := stmt_parts ((right_of hc).st _ (getDmC (List.mem_range.1 hk)))
  revert ha
  unfold ruleD
  split
  · exact fun ha => absurd rfl ha.1
  split
  · exact fun ha => absurd rfl ha.1
  split
  · exact fun ha => absurd rfl ha.1
  rename_i e1 e2 e3
  intro ha
  have e4 : (P.stmts.getD k default).kind ≠ kCopy := ha.2
  show (P.stmts.getD k default).kind = kLoad ∨ (P.stmts.getD k default).kind = kStore ∨ (P.stmts.getD k default).kind = kCall
  simp only [kinds, List.contains_cons, List.contains_nil, Bool.or_false, Bool.or_eq_true, beq_iff_eq] at k1
  rcases k1 with e | e | e | e | e | e | e <;> simp_all
/-- What a program's rules may name. -/
theorem rule_fit {P : ProgD} (hc : checkE P = none) (r : RuleD) (hr : r ∈ rulesD P) : RuleFit (places P P.stmts.length) P.funs r := by
  obtain ⟨h1, h2, h3, h4⟩ := rule_names hc r hr
  have hv : P.vars.length ≤ places P P.stmts.length := by unfold places; omega
  refine ⟨⟨h1.1, by omega⟩, fun e => by have := h2 e; omega, h3, fun x hx p hp => ?_⟩
  obtain ⟨n, hn⟩ : ∃ n, n = places P P.stmts.length := ⟨_, rfl⟩
  rw [← hn] at hx hp hv ⊢
  have hne : r.kind ≠ kBase := fun e => by
    rcases join_kind hp with e' | e' | e' <;> (rw [e] at e'; exact absurd e' (by decide))
  have hb' := h2 hne
  unfold joinD at hp
  split at hp
  · split at hp
    · rw [List.mem_singleton.1 hp]
      exact ⟨⟨hx.1, by assumption⟩, ⟨hb'.1, by show r.b < _; omega⟩⟩
    · cases hp
  · split at hp
    · split at hp
      · rw [List.mem_singleton.1 hp]
        exact ⟨⟨h1.1, by show r.a < _; omega⟩, ⟨hx.1, by assumption⟩⟩
      · cases hp
    · split at hp
      · split at hp
        · cases hp
        · rename_i hnx
          have hi : (x - n).toNat < P.funs.length := by omega
          unfold joinsF at hp
          split at hp
          · rename_i hlen
            have hfp := (right_of hc).fp _ (getDmC hi)
            rcases List.mem_append.1 hp with q | q
            · have q1 := h4 p.1 (List.of_mem_zip (by exact q)).1
              have q2 := varB_parts (List.all_eq_true.1 hfp.1 p.2 (List.of_mem_zip (by exact q)).2)
              constructor <;> omega
            · rw [List.mem_singleton.1 q]
              have := varB_parts hfp.2
              exact ⟨by show 0 ≤ (P.funs.getD (x - n).toNat default).ret ∧ (P.funs.getD (x - n).toNat default).ret < _; omega, by show 0 ≤ r.b ∧ r.b < _; omega⟩
          · cases hp
      · cases hp
/-- When nothing is due, what came is the least answer. -/
theorem SolOk.done {P : ProgD} {k : Nat} {s : SolD} (hc : checkE P = none) (h : SolOk (places P P.stmts.length) P.funs (iterD P k) (rulesD P) s) (hd : s.due = []) : s.has = iterD P k := by
  have hl := h.core.len
  have hsub := h.sub (iterD_len P k)
  have hiter := setsOk_iter hc k
  have hok : SetsOk P s.has := setsOk_of hc hl (fun j _ => h.core.row j) (fun j x hx => by
    have := setsOk_mem hiter j x (hsub.mem j x hx)
    rw [iterD_len] at this
    rw [hl]
    exact ⟨this.1, this.2.2⟩)
  have hcl : closedB P s.has = true := closed_of (fun r hr => by rw [hl]; exact rule_fit hc r hr) (fun r hr => ask_kinds hc r hr) (fun r hr => by rw [hl]; exact h.closed hd r hr)
  exact Sub.antisymm hok hiter hsub (iter_within hc hok hcl k)
theorem ask_nodes {P : ProgD} (hc : checkE P = none) : ∀ r ∈ rulesD P, asks r → 0 ≤ askedD r ∧ askedD r < ((places P P.stmts.length : Nat) : Int) := fun r hr ha => asked_nod (rule_fit hc r hr) ha (ask_kinds hc r hr ha)
/-- So many facts, or till nothing is due. -/
def SolD.steps (n : Nat) (fs : List FunD) : Nat → SolD → SolD
  | 0, s => s
  | k + 1, s => SolD.steps n fs k (s.come n fs)
/-- The solver of a program. -/
def newD (P : ProgD) : SolD := (rulesD P).foldl (SolD.obey (places P P.stmts.length) P.funs) (sol0 (places P P.stmts.length))
theorem obeys_ok {n : Nat} {fs : List FunD} {L : List (List Int)} (rs : List RuleD) {R : List RuleD} {s : SolD} (h : SolOk n fs L R s) (hf : ∀ r ∈ rs, RuleFit n fs r) (hc : ∀ r ∈ rs, ClR n fs L r) (hk : ∀ r ∈ rs, asks r → r.kind = kLoad ∨ r.kind = kStore ∨ r.kind = kCall) : SolOk n fs L (R ++ rs) (rs.foldl (SolD.obey n fs) s) ∧ (rs.foldl (SolD.obey n fs) s).has = s.has := by
  induction rs generalizing R s with
  | nil => rw [List.append_nil]; exact ⟨h, rfl⟩
  | cons r q ih =>
    obtain ⟨h1, h2⟩ := h.obey (hf r (List.mem_cons_self ..)) (hc r (List.mem_cons_self ..)) (hk r (List.mem_cons_self ..))
    obtain ⟨i1, i2⟩ := ih h1 (fun x hx => hf x (List.mem_cons_of_mem _ hx)) (fun x hx => hc x (List.mem_cons_of_mem _ hx)) (fun x hx => hk x (List.mem_cons_of_mem _ hx))
    rw [List.append_assoc] at i1
    exact ⟨i1, i2.trans h2⟩
theorem newD_ok {P : ProgD} {k : Nat} (hc : checkE P = none) (hk : FixK P k) : SolOk (places P P.stmts.length) P.funs (iterD P k) (rulesD P) (newD P) ∧ (newD P).has = emptyD P := by
  have hlen := iterD_len P k
  have := obeys_ok (rulesD P) (SolOk.start (places P P.stmts.length) P.funs (iterD P k)) (rule_fit hc) (fun r hr => by
    have := clR_of (hk.closed hc) (fun r hr => by rw [hlen]; exact rule_fit hc r hr) (ask_kinds hc) r hr
    rw [hlen] at this
    exact this) (ask_kinds hc)
  exact this
/-- What came is never more than the least answer; so many facts are left. -/
theorem SolOk.tot {P : ProgD} {k : Nat} {s : SolD} (h : SolOk (places P P.stmts.length) P.funs (iterD P k) (rulesD P) s) : totD s.has ≤ totD (iterD P k) := by
  have hsub := h.sub (iterD_len P k)
  exact (tot_sub hsub.len fun j hj => rise_len (h.core.row j) fun x hx => hsub.mem j x hx).1
theorem SolOk.tot_done {P : ProgD} {k : Nat} {s : SolD} (hc : checkE P = none) (h : SolOk (places P P.stmts.length) P.funs (iterD P k) (rulesD P) s) : s.due = [] ↔ totD s.has = totD (iterD P k) := by
  constructor
  · intro hd
    rw [h.done hc hd]
  · intro e
    apply Classical.byContradiction
    intro hd
    obtain ⟨h1, -, h3⟩ := h.come hd (ask_nodes hc)
    have := h1.tot
    omega
end Go.Proofs.YtglonlpfnllocaaGreatDoor
