/-
  Package solve, plain: no edge twice, so they are few; what a join wants of a solver that stands well.
-/
import Derived.Test.YtglonlpfnllocaaGreatDoorV2M
import Derived.Test.YtglonlpfnllocaaGreatDoorVBM
import Derived.Test.YtglonlpfnllocaaGreatDoorV3M
import Derived.Test.YtglonlpfnllocaaGreatDoorV5M
namespace Go.Proofs.YtglonlpfnllocaaGreatDoor
open Go.RowKit Go.Extern.Stop Go.Stop Go.Extern

def EdgeOnce (s : SolD) : Prop := ∀ a, (s.edges a).Nodup
theorem awaits_edges (fs : List Fact) : ∀ s : SolD, (fs.foldl SolD.await s).edges = s.edges := by
  induction fs with
  | nil => exact fun _ => rfl
  | cons f r ih => exact fun s => by rw [List.foldl_cons, ih, await_edges]
theorem EdgeOnce.join {s : SolD} (h : EdgeOnce s) (p : Pair) : EdgeOnce (s.join p) := by
  intro a
  unfold SolD.join
  split
  · exact h a
  · rename_i hno
    rw [awaits_edges]
    show (updF s.edges p.1 (s.edges p.1 ++ [p.2]) a).Nodup
    by_cases e : a = p.1
    · rw [e, updF_same, List.nodup_append]
      refine ⟨h p.1, List.nodup_cons.2 ⟨List.not_mem_nil, List.nodup_nil⟩, fun x hx y hy e2 => hno (Or.inr ?_)⟩
      rw [List.mem_singleton.1 hy] at e2
      rw [← e2]; exact hx
    · rw [updF_other _ _ e]
      exact h a
theorem EdgeOnce.joins (ps : List Pair) : ∀ {s : SolD}, EdgeOnce s → EdgeOnce (ps.foldl SolD.join s) := by
  induction ps with
  | nil => exact fun h => h
  | cons p r ih => exact fun h => ih (h.join p)
theorem EdgeOnce.await {s : SolD} (h : EdgeOnce s) (f : Fact) : EdgeOnce (s.await f) := fun a => by rw [await_edges]; exact h a
theorem EdgeOnce.awaits (fs : List Fact) {s : SolD} (h : EdgeOnce s) : EdgeOnce (fs.foldl SolD.await s) := fun a => by rw [awaits_edges]; exact h a
theorem EdgeOnce.obey {s : SolD} (h : EdgeOnce s) (n : Nat) (fs : List FunD) (r : RuleD) : EdgeOnce (s.obey n fs r) := by
  unfold SolD.obey
  split
  · exact h.await _
  · split
    · exact h.join _
    · exact EdgeOnce.joins _ (fun a => h a)
theorem EdgeOnce.come {s : SolD} (h : EdgeOnce s) (n : Nat) (fs : List FunD) : EdgeOnce (s.come n fs) := EdgeOnce.joins _ (EdgeOnce.awaits _ (fun a => h a))
theorem nodup_few {n : Nat} {l : List Int} (h : l.Nodup) (hr : ∀ x ∈ l, 0 ≤ x ∧ x < (n : Int)) : l.length ≤ n := by
  have key : ∀ (l ys : List Int), l.Nodup → (∀ f ∈ l, f ∈ ys) → l.length ≤ ys.length := by
    intro l
    induction l with
    | nil => intro ys _ _; exact Nat.zero_le _
    | cons f r ih =>
      intro ys hl hy
      have p := List.nodup_cons.1 hl
      have hf := hy f (List.mem_cons_self ..)
      have := ih (ys.erase f) p.2 fun g hg => (List.mem_erase_of_ne (fun e => p.1 (by rw [← e]; exact hg))).2 (hy g (List.mem_cons_of_mem _ hg))
      rw [List.length_erase_of_mem hf] at this
      have := List.length_pos_of_mem hf
      rw [List.length_cons]
      omega
  have := key l ((List.range n).map fun (k : Nat) => ((k : Nat) : Int)) h fun x hx => by
    have := hr x hx
    exact List.mem_map.2 ⟨x.toNat, List.mem_range.2 (by omega), Int.toNat_of_nonneg this.1⟩
  simpa using this
/-- What a join wants, of a solver that stands well. -/
theorem joinOk_of {n m : Nat} {s : SolD} (hc : CoreOk n m s) (he : EdgeOk n s) (ho : EdgeOnce s) (hn : n * (n + m) ≤ 1000000) (hn1 : n + m ≤ 1000000) (p : Pair) (hp : (0 ≤ p.1 ∧ p.1 < (n : Int)) ∧ (0 ≤ p.2 ∧ p.2 < (n : Int))) : JoinOk s p := by
  have hlen := hc.len
  have hobj : ∀ o ∈ setAt s.has p.1, 0 ≤ o ∧ o < ((n + m : Nat) : Int) := fun o q => by
    have := (hc.nod p.1 o ((hc.kn p.1 o).2 (Or.inl ⟨hp.1.1, q⟩))).2
    omega
  refine ⟨by rw [hlen]; exact hp.1, by rw [hlen]; exact hp.2, by omega, ?_, ?_, fun o q => ?_, fun hno k hk => ?_⟩
  · exact Nat.le_trans (nodup_few (ho p.1) fun x hx => (he.nod p.1 x hx).2) (by omega)
  · exact Nat.le_trans (nodup_few ((hc.row p.1.toNat).imp fun h => (by omega)) hobj) hn1
  · have := hobj o q
    unfold okI
    omega
  · have c1 : CoreOk n m { s with edges := updF s.edges p.1 (s.edges p.1 ++ [p.2]) } := ⟨hc.len, hc.row, hc.kn, hc.nodup, hc.apart, hc.nod⟩
    have := (awaits_ok (((setAt s.has p.1).take k).map fun o => (p.2, o)) c1 fun b z hb => by
      obtain ⟨o, h1, q⟩ := List.mem_map.1 hb
      injection q with q1 q2
      rw [← q1, ← q2]
      have := hobj o (List.mem_of_mem_take h1)
      exact ⟨hp.2, by omega⟩).1
    exact Nat.le_trans (due_few this) hn
end Go.Proofs.YtglonlpfnllocaaGreatDoor

/-
  Package solve, plain: each join of a row of joins may go.
-/
namespace Go.Proofs.YtglonlpfnllocaaGreatDoor
open Go.RowKit Go.Extern.Stop Go.Stop Go.Extern

theorem joinsOk_of {n m : Nat} (hn : n * (n + m) ≤ 1000000) (hn1 : n + m ≤ 1000000) (ps : List Pair) : ∀ {s : SolD}, CoreOk n m s → EdgeOk n s → EdgeOnce s → (∀ p ∈ ps, (0 ≤ p.1 ∧ p.1 < (n : Int)) ∧ (0 ≤ p.2 ∧ p.2 < (n : Int))) → ∀ k, k < ps.length → JoinOk (jK s ps k) (ps.getD k default) := by
  induction ps with
  | nil => exact fun _ _ _ _ k hk => absurd hk (Nat.not_lt_zero _)
  | cons p r ih =>
    intro s hc he ho hp k hk
    have hp0 := hp p (List.mem_cons_self ..)
    cases k with
    | zero => exact joinOk_of hc he ho hn hn1 p hp0
    | succ k =>
      obtain ⟨j1, j2, -, -, -, -⟩ := join_ok hc he p hp0
      have := ih j1 j2 (ho.join p) (fun q hq => hp q (List.mem_cons_of_mem _ hq)) k (by simpa using hk)
      simpa [jK, List.getD] using this
end Go.Proofs.YtglonlpfnllocaaGreatDoor

/-
  Package solve, plain: what it wants that a fact comes holds of a solver that stands well.
-/
namespace Go.Proofs.YtglonlpfnllocaaGreatDoor
open Go.RowKit Go.Extern.Stop Go.Stop Go.Extern

theorem await_due (s : SolD) (f : Fact) : (s.await f).due.length ≤ s.due.length + 1 := by
  unfold SolD.await
  split
  · exact Nat.le_succ _
  · simp
theorem awaits_due (l : List Fact) : ∀ s : SolD, (l.foldl SolD.await s).due.length ≤ s.due.length + l.length := by
  induction l with
  | nil => exact fun s => Nat.le_refl _
  | cons f l ih =>
    intro s
    rw [List.foldl_cons, List.length_cons]
    have h1 := ih (s.await f)
    have h2 := await_due s f
    omega
/-- On the way of a fact that comes: when it is handed on along the edges. -/
theorem SolOk.mid {n : Nat} {fs : List FunD} {L : List (List Int)} {R : List RuleD} {s : SolD} (h : SolOk n fs L R s) (hd : s.due ≠ []) :
    CoreOk n fs.length (((s.edges (s.due.getLastD (0, 0)).1).map fun t => (t, (s.due.getLastD (0, 0)).2)).foldl SolD.await s.come1) ∧ EdgeOk n (((s.edges (s.due.getLastD (0, 0)).1).map fun t => (t, (s.due.getLastD (0, 0)).2)).foldl SolD.await s.come1) ∧ SoundD L (((s.edges (s.due.getLastD (0, 0)).1).map fun t => (t, (s.due.getLastD (0, 0)).2)).foldl SolD.await s.come1) := by
  have hdl := due_last hd
  obtain ⟨⟨a, o⟩, hao⟩ : ∃ f, f = s.due.getLastD (0, 0) := ⟨_, rfl⟩
  have hc1 : s.come1 = { s with due := s.due.dropLast, has := s.has.set a.toNat (insD (setAt s.has a) o) } := by unfold SolD.come1; rw [← hao]
  rw [← hao]
  simp only
  rw [← hao] at hdl
  have hin : (a, o) ∈ s.due := by rw [hdl]; exact List.mem_append_right _ (List.mem_singleton.2 rfl)
  have hkn : s.known (a, o) = true := (h.core.kn a o).2 (Or.inr hin)
  obtain ⟨⟨a0, a1⟩, o0, o1⟩ := h.core.nod a o hkn
  have hnot := h.core.apart a o hin
  have hlen := h.core.len
  have hal : a.toNat < s.has.length := by omega
  have hnd : s.due.dropLast.Nodup ∧ (a, o) ∉ s.due.dropLast := by
    have := h.core.nodup
    rw [hdl, List.nodup_append] at this
    exact ⟨this.1, fun q => this.2.2 _ q _ (List.mem_singleton.2 rfl) rfl⟩
  have hat : ∀ b, setAt (s.has.set a.toNat (insD (setAt s.has a) o)) b = if b.toNat = a.toNat then insD (setAt s.has a) o else setAt s.has b := fun b => set_at _ _ _ _ hal
  have hmem : ∀ b x, 0 ≤ b → (x ∈ setAt (s.has.set a.toNat (insD (setAt s.has a) o)) b ↔ x ∈ setAt s.has b ∨ (b, x) = (a, o)) := fun b x hb => by
    rw [hat b]
    by_cases e : b.toNat = a.toNat
    · have : b = a := by omega
      subst this
      rw [if_pos rfl, ins_mem]
      constructor
      · rintro (rfl | q)
        · exact Or.inr rfl
        · exact Or.inl q
      · rintro (q | q)
        · exact Or.inr q
        · injection q with _ q2
          exact Or.inl q2
    · rw [if_neg e]
      exact ⟨Or.inl, fun q => q.elim id fun q => by injection q with q1 _; exact absurd (by rw [q1]) e⟩
  have eh : s.come1.has = s.has.set a.toNat (insD (setAt s.has a) o) := by rw [hc1]
  have ek : s.come1.known = s.known := by rw [hc1]
  have ee : s.come1.edges = s.edges := by rw [hc1]
  have er : s.come1.rules = s.rules := by rw [hc1]
  have ed : s.come1.due = s.due.dropLast := by rw [hc1]
  have c1 : CoreOk n fs.length s.come1 := by
    refine ⟨by rw [eh, List.length_set]; exact hlen, fun j => ?_, fun b x => ?_, by rw [ed]; exact hnd.1, fun b x hb => ?_, by rw [ek]; exact h.core.nod⟩
    · rw [eh]
      have e1 : (s.has.set a.toNat (insD (setAt s.has a) o)).getD j [] = setAt (s.has.set a.toNat (insD (setAt s.has a) o)) (j : Int) := by show _ = List.getD _ ((j : Int).toNat) []; rw [Int.toNat_natCast]
      rw [e1, hat]
      split
      · exact ins_rise (h.core.row _) hnot
      · exact h.core.row j
    · rw [ek, eh, ed, h.core.kn]
      have hdm : (b, x) ∈ s.due ↔ (b, x) ∈ s.due.dropLast ∨ (b, x) = (a, o) := by
        constructor
        · intro q
          rw [hdl] at q
          rcases List.mem_append.1 q with q | q
          · exact Or.inl q
          · exact Or.inr (List.mem_singleton.1 q)
        · rintro (q | q)
          · rw [hdl]; exact List.mem_append_left _ q
          · rw [q]; exact hin
      rw [hdm]
      by_cases hb : 0 ≤ b
      · rw [hmem b x hb]
        constructor
        · rintro (⟨-, q⟩ | q | q)
          · exact Or.inl ⟨hb, Or.inl q⟩
          · exact Or.inr q
          · exact Or.inl ⟨hb, Or.inr q⟩
        · rintro (⟨-, q | q⟩ | q)
          · exact Or.inl ⟨hb, q⟩
          · exact Or.inr (Or.inr q)
          · exact Or.inr (Or.inl q)
      · have : (b, x) ≠ (a, o) := fun q => by injection q with q1 _; omega
        simp [hb, this]
    · rw [ed] at hb
      rw [eh]
      have hbd : (b, x) ∈ s.due := by rw [hdl]; exact List.mem_append_left _ hb
      have hb0 := (h.core.nod b x ((h.core.kn b x).2 (Or.inr hbd))).1.1
      rw [hmem b x hb0]
      rintro (q | q)
      · exact h.core.apart b x hbd q
      · exact hnd.2 (q ▸ hb)
  obtain ⟨i1, i2, i3, i4, i5⟩ := awaits_ok ((s.edges a).map fun t => (t, o)) c1 fun b x hb => by
    obtain ⟨t, ht, q⟩ := List.mem_map.1 hb
    injection q with q1 q2
    rw [← q1, ← q2]
    exact ⟨(h.edge.nod a t ht).2, o0, o1⟩
  obtain ⟨s2, hs2⟩ : ∃ s2, s2 = ((s.edges a).map fun t => (t, o)).foldl SolD.await s.come1 := ⟨_, rfl⟩
  rw [← hs2] at i1 i2 i3 i4 i5 ⊢
  have d2 : EdgeOk n s2 := by
    refine ⟨fun b c hb => h.edge.nod b c (by rw [i3, ee] at hb; exact hb), fun b c x hb hx => ?_⟩
    rw [i3, ee] at hb
    rw [i2, eh] at hx
    rw [i5, ek]
    have hb0 := (h.edge.nod b c hb).1.1
    rcases (hmem b x hb0).1 hx with q | q
    · exact Or.inl (h.edge.on b c x hb q)
    · injection q with q1 q2
      subst q1; subst q2
      exact Or.inr (List.mem_map.2 ⟨c, hb, rfl⟩)
  have f2 : SoundD L s2 := by
    refine ⟨fun b x hb => ?_, fun b c hb => h.sound.edge b c (by rw [i3, ee] at hb; exact hb)⟩
    rw [i5, ek] at hb
    rcases hb with q | q
    · exact h.sound.has b x q
    · obtain ⟨t, ht, q⟩ := List.mem_map.1 q
      injection q with q1 q2
      rw [← q1, ← q2]
      exact h.sound.edge a t ht o (h.sound.has a o hkn)
  exact ⟨i1, d2, f2⟩
/-- How many rules are kept, and of what size. -/
structure RulesFew (fs : List FunD) (R : List RuleD) (s : SolD) : Prop where
  len : ∀ a, (s.rules a).length ≤ 1000
  args : ∀ r ∈ R, r.args.length ≤ 1000000
  fp : ∀ i, i < fs.length → (fs.getD i default).params.length ≤ 1000
theorem comeOk_of {n : Nat} {fs : List FunD} {L : List (List Int)} {R : List RuleD} {s : SolD} (h : SolOk n fs L R s) (ho : EdgeOnce s) (hf : RulesFew fs R s) (hn : n * (n + fs.length) ≤ 900000) (hn1 : n + fs.length ≤ 999) (hd : s.due ≠ []) :
    ∃ X d o, ∀ m' : SolB, m'.kn + 1002000000000 + 1002000000 < maxLen → m'.en + 1002000 + 1002 < maxLen → ComeOk fs m' s n X d o := by
  obtain ⟨c5, e5, f5⟩ := h.mid hd
  have hdl := due_last hd
  obtain ⟨⟨a, o⟩, hao⟩ : ∃ f, f = s.due.getLastD (0, 0) := ⟨_, rfl⟩
  rw [← hao] at hdl c5 e5 f5
  simp only at c5 e5 f5
  have hin : (a, o) ∈ s.due := by rw [hdl]; exact List.mem_append_right _ (List.mem_singleton.2 rfl)
  obtain ⟨⟨a0, a1⟩, o0, o1⟩ := h.core.nod a o ((h.core.kn a o).2 (Or.inr hin))
  obtain ⟨X, rfl⟩ : ∃ X : Nat, a = (X : Int) := ⟨a.toNat, by omega⟩
  obtain ⟨d, hdd⟩ : ∃ d, d = s.due.dropLast.length := ⟨_, rfl⟩
  have hlen : s.due.length = d + 1 := by rw [hdl, List.length_append, List.length_singleton, hdd]
  have hlast : s.due.getD d default = ((X : Int), o) := by
    rw [hdl, hdd]
    simp [List.getD]
  have hdm := due_few h.core
  have hsl := h.core.len
  have hesl : (s.edges (X : Int)).length ≤ n := nodup_few (ho X) fun x hx => (h.edge.nod _ x hx).2
  have hobj : ∀ x ∈ s.has.getD X [], 0 ≤ x ∧ x < ((n + fs.length : Nat) : Int) := fun x q => by
    have := (h.core.nod (X : Int) x ((h.core.kn (X : Int) x).2 (Or.inl ⟨Int.natCast_nonneg _, by unfold setAt; rw [Int.toNat_natCast]; exact q⟩))).2
    omega
  have hrowl : (s.has.getD X []).length ≤ n + fs.length := nodup_few ((h.core.row X).imp fun q => (by omega)) hobj
  have honce : EdgeOnce (((s.edges (X : Int)).map fun t => (t, o)).foldl SolD.await s.come1) := EdgeOnce.awaits _ fun a => ho a
  have hR := h.rules (X : Int)
  refine ⟨X, d, o, fun m' hkn hen => ⟨hsl.symm, by omega, hlen, hlast, by omega, by omega, by omega, h.core.row X, by omega, fun t ht => ?_, by omega, fun k hk => ?_, hf.len _, fun r _ _ hno => by omega, hf.fp, fun r hr => hf.args r (hR r hr).1, hkn, hen, fun k hk j hj => ?_⟩⟩
  · have := (h.edge.nod _ t ht).2
    unfold okI
    omega
  · have h1 := awaits_due (((s.edges (X : Int)).take k).map fun t => (t, o)) s.come1
    have h2 : s.come1.due.length = d := by show s.due.dropLast.length = d; exact hdd.symm
    rw [h2, List.length_map, List.length_take] at h1
    unfold eK
    omega
  · have hjp : ∀ r ∈ s.rules (X : Int), ∀ p ∈ joinD n fs r o, (0 ≤ p.1 ∧ p.1 < (n : Int)) ∧ (0 ≤ p.2 ∧ p.2 < (n : Int)) := fun r hr p hp => (h.fit r (hR r hr).1).join o ⟨o0, o1⟩ p hp
    have hkn : s.known ((X : Int), o) = true := (h.core.kn _ o).2 (Or.inr hin)
    have hjL : ∀ r ∈ s.rules (X : Int), ∀ p ∈ joinD n fs r o, ∀ x ∈ setAt L p.1, x ∈ setAt L p.2 := fun r hr p hp => by
      obtain ⟨q1, q2, q3⟩ := hR r hr
      exact (h.cl r q1).ask q3 o (by rw [q2]; exact h.sound.has _ o hkn) p hp
    rw [eK_all]
    obtain ⟨j1, j2, -, -, -⟩ := joins_ok (((s.rules (X : Int)).take k).flatMap fun r => joinD n fs r o) c5 e5 f5 (fun p hp => by
      obtain ⟨r, hr, hj⟩ := List.mem_flatMap.1 hp
      exact hjp r (List.mem_of_mem_take hr) p hj) (fun p hp => by
      obtain ⟨r, hr, hj⟩ := List.mem_flatMap.1 hp
      exact hjL r (List.mem_of_mem_take hr) p hj)
    have hmem : (s.rules (X : Int)).getD k default ∈ s.rules (X : Int) := by simp [List.getD, hk]
    exact joinsOk_of (by omega) (by omega) (joinD n fs ((s.rules (X : Int)).getD k default) o) j1 j2 (EdgeOnce.joins _ honce) (fun p hp => hjp _ hmem p hp) j hj
theorem come_rules (n : Nat) (fs : List FunD) (s : SolD) : (s.come n fs).rules = s.rules := by
  unfold SolD.come
  rw [(joins_has _ _).2, (awaits_has _ _).2.1]
  rfl
/-- So many facts: what stands behind them. -/
theorem comes_ok {n : Nat} {fs : List FunD} {L : List (List Int)} {R : List RuleD} {s : SolD} (h : SolOk n fs L R s) (ho : EdgeOnce s) (hask : ∀ r ∈ R, asks r → 0 ≤ askedD r ∧ askedD r < (n : Int)) : ∀ k, (∀ j, j < k → (comesD n fs s j).due ≠ []) →
    SolOk n fs L R (comesD n fs s k) ∧ EdgeOnce (comesD n fs s k) ∧ (comesD n fs s k).rules = s.rules ∧ totD (comesD n fs s k).has = totD s.has + k
  | 0, _ => ⟨h, ho, rfl, rfl⟩
  | k + 1, hk => by
    obtain ⟨q1, q2, q3, q4⟩ := comes_ok h ho hask k fun j hj => hk j (Nat.lt_succ_of_lt hj)
    obtain ⟨c1, -, c3⟩ := q1.come (hk k (Nat.lt_succ_self k)) hask
    exact ⟨c1, q2.come n fs, (come_rules n fs _).trans q3, by show totD (SolD.come n fs _).has = _; omega⟩
theorem SolOk.tot_few {n : Nat} {fs : List FunD} {L : List (List Int)} {R : List RuleD} {s : SolD} (h : SolOk n fs L R s) : totD s.has ≤ n * (n + fs.length) := by
  have h1 := totD_le s.has (n + fs.length) fun j hj => nodup_few ((h.core.row j).imp fun q => (by omega)) fun x q => by
    have := (h.core.nod (j : Int) x ((h.core.kn (j : Int) x).2 (Or.inl ⟨Int.natCast_nonneg _, by unfold setAt; rw [Int.toNat_natCast]; exact q⟩))).2
    omega
  rw [h.core.len] at h1
  exact h1
theorem comesOk_of {n : Nat} {fs : List FunD} {L : List (List Int)} {R : List RuleD} {s : SolD} (h : SolOk n fs L R s) (ho : EdgeOnce s) (hf : RulesFew fs R s) (hask : ∀ r ∈ R, asks r → 0 ≤ askedD r ∧ askedD r < (n : Int)) (hn : n * (n + fs.length) ≤ 900000) (hn1 : n + fs.length ≤ 999) :
    ComesOk fs s n (n * (n + fs.length)) := fun k _ hall hd => by
  obtain ⟨q1, q2, q3, q4⟩ := comes_ok h ho hask k hall
  obtain ⟨c1, -, c3⟩ := q1.come hd hask
  have ht := c1.tot_few
  exact ⟨by omega, comeOk_of q1 q2 ⟨by rw [q3]; exact hf.len, hf.args, hf.fp⟩ hn hn1 hd⟩
end Go.Proofs.YtglonlpfnllocaaGreatDoor
