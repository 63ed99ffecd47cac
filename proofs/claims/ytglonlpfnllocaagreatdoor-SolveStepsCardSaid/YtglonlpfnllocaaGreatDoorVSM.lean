/-
  Package solve in memory: what a step keeps when rules come, too; that the functions stay readable.
-/
import Derived.Test.YtglonlpfnllocaaGreatDoorV3M
namespace Go.Proofs.YtglonlpfnllocaaGreatDoor
open Go.RowKit Go.Extern.Stop Go.Stop Go.Extern Go.Maps

/-- What a step of the solver keeps, also one by which a rule comes. -/
structure SolStepR (w w' : World) (sb : Nat) (m m' : SolB) (s s' : SolD) : Prop where
  keep : ∀ (k : Nat) (o : Obj), w.heap[k]? = some o → ¬ OwnB sb m s k → w'.heap[k]? = some o
  own : ∀ k, OwnB sb m' s' k → OwnB sb m s k ∨ w.heap.size ≤ k
  os : w'.os = w.os
  tape : w'.tape = w.tape
  output : w'.output = w.output
  size : w.heap.size ≤ w'.heap.size
  at_ : m'.v1 = m.v1 ∧ m'.v2 = m.v2 ∧ m'.v3 = m.v3
theorem SolStep.toR {w w' : World} {sb : Nat} {m m' : SolB} {s s' : SolD} (h : SolStep w w' sb m m' s s') : SolStepR w w' sb m m' s s' :=
  ⟨h.keep, h.own, h.os, h.tape, h.output, h.size, h.at_.1, h.at_.2.1, h.at_.2.2.1⟩
theorem SolStepR.trans {w1 w2 w3 : World} {sb : Nat} {m1 m2 m3 : SolB} {s1 s2 s3 : SolD} (h1 : SolStepR w1 w2 sb m1 m2 s1 s2) (h2 : SolStepR w2 w3 sb m2 m3 s2 s3) : SolStepR w1 w3 sb m1 m3 s1 s3 := by
  obtain ⟨a1, a2, a3⟩ := h1.at_
  obtain ⟨b1, b2, b3⟩ := h2.at_
  refine ⟨fun k o q hn => h2.keep k o (h1.keep k o q hn) fun q2 => ?_, fun k q => ?_, h2.os.trans h1.os, h2.tape.trans h1.tape, h2.output.trans h1.output, Nat.le_trans h1.size h2.size, b1.trans a1, b2.trans a2, b3.trans a3⟩
  · rcases h1.own k q2 with q3 | q3
    · exact hn q3
    · exact absurd (Array.getElem?_eq_some_iff.1 q).1 (Nat.not_lt.2 q3)
  · rcases h2.own k q with q2 | q2
    · exact h1.own k q2
    · exact Or.inr (Nat.le_trans h1.size q2)
/-- A keep behind a step. -/
theorem SolStepR.keeps {w w' : World} {sb : Nat} {m m' : SolB} {s s' : SolD} (h : SolStepR w w' sb m m' s s') {w2 : World} (h2 : ∀ (k : Nat) (o : Obj), w'.heap[k]? = some o → ¬ OwnB sb m' s' k → w2.heap[k]? = some o) : ∀ (k : Nat) (o : Obj), w.heap[k]? = some o → ¬ OwnB sb m s k → w2.heap[k]? = some o := fun k o q hn => by
  refine h2 k o (h.keep k o q hn) fun q2 => ?_
  rcases h.own k q2 with q3 | q3
  · exact hn q3
  · exact absurd (Array.getElem?_eq_some_iff.1 q).1 (Nat.not_lt.2 q3)
/-- The functions stay as they are while the solver's own blocks alone are written. -/
def FunsK (w : World) (sb : Nat) (fs : List FunD) (m : SolB) (s : SolD) : Prop :=
  ∃ (b : Option Addr) (c : Nat) (pv : Nat → Value), m.v2 = .slice b fs.length c ∧ ∀ w', (∀ (k : Nat) (o : Obj), w.heap[k]? = some o → ¬ OwnB sb m s k → w'.heap[k]? = some o) → ∀ i, i < fs.length → ∃ g q, b = some ⟨g, q, none⟩ ∧ w'.cell? ⟨g, q + i * 3 + 1, none⟩ = some (pv i) ∧ IsInts w' (pv i) (fs.getD i default).params
theorem FunsK.step {w w' : World} {sb : Nat} {fs : List FunD} {m m' : SolB} {s s' : SolD} (h : FunsK w sb fs m s) (hs : SolStepR w w' sb m m' s s') : FunsK w' sb fs m' s' := by
  obtain ⟨b, c, pv, h1, h2⟩ := h
  exact ⟨b, c, pv, by rw [hs.at_.2.1, h1], fun w2 hk => h2 w2 (hs.keeps hk)⟩
theorem FunsK.at {w : World} {sb : Nat} {fs : List FunD} {m : SolB} {s : SolD} (h : FunsK w sb fs m s) : ∀ i, i < fs.length → ∀ b q c pv, m.v2 = .slice (some ⟨b, q, none⟩) fs.length c → w.cell? ⟨b, q + i * 3 + 1, none⟩ = some pv → ∀ m' s' wx, SolStep w wx sb m m' s s' → IsInts wx pv (fs.getD i default).params := fun i hi b q c pv hv hc m' s' wx hs => by
  obtain ⟨b', c', pv', h1, h2⟩ := h
  rw [hv] at h1
  injection h1 with e1 e2 e3
  subst e1
  obtain ⟨g, q', e4, h3, -⟩ := h2 w (fun _ _ q _ => q) i hi
  cases e4
  rw [hc] at h3
  injection h3 with h3
  obtain ⟨_, _, _, _, h4⟩ := h2 wx hs.keep i hi
  rw [h3]
  exact h4
theorem SolM.ruleLook {w : World} {B sb : Nat} {fs : List FunD} {m : SolB} {s : SolD} (h : SolM w B sb fs m s) (x : Int) (hx : okI x) :
    (Instr.lookup 67 (.map (some m.rb)) (.int .i64 x) false).run Tryz.prog w = .ok (rowV s.rules m.rv x) w :=
  h.rules.look intKeys Tryz.underlying67 (by kernel_rfl) x hx
/-- The state behind the first k of the objects that a rule asks of. -/
def oK (n : Nat) (fs : List FunD) (r : RuleD) (s : SolD) (zs : List Int) (k : Nat) : SolD := ((zs.take k).flatMap (joinD n fs r)).foldl SolD.join s
theorem oK_next (n : Nat) (fs : List FunD) (r : RuleD) (s : SolD) (zs : List Int) (k : Nat) (h : k < zs.length) : oK n fs r s zs (k + 1) = (joinD n fs r (zs.getD k 0)).foldl SolD.join (oK n fs r s zs k) := by
  unfold oK
  rw [take_snoc zs 0 k h, List.flatMap_append, List.flatMap_singleton, List.foldl_append]
theorem oK_all (n : Nat) (fs : List FunD) (r : RuleD) (s : SolD) (zs : List Int) : oK n fs r s zs zs.length = (zs.flatMap (joinD n fs r)).foldl SolD.join s := by
  unfold oK
  rw [List.take_length]
theorem join_has (s : SolD) (p : Pair) : (s.join p).has = s.has ∧ (s.join p).rules = s.rules := by
  have ha : ∀ (l : List Fact) (s : SolD), (l.foldl SolD.await s).has = s.has ∧ (l.foldl SolD.await s).rules = s.rules := fun l => by
    induction l with
    | nil => exact fun s => ⟨rfl, rfl⟩
    | cons f l ih =>
      intro s
      rw [List.foldl_cons, (ih _).1, (ih _).2, await_has, await_rules]
      exact ⟨rfl, rfl⟩
  unfold SolD.join
  split
  · exact ⟨rfl, rfl⟩
  · exact ⟨(ha _ _).1, (ha _ _).2⟩
theorem joins_has (ps : List Pair) : ∀ s : SolD, (ps.foldl SolD.join s).has = s.has ∧ (ps.foldl SolD.join s).rules = s.rules := by
  induction ps with
  | nil => exact fun s => ⟨rfl, rfl⟩
  | cons p ps ih =>
    intro s
    rw [List.foldl_cons, (ih _).1, (ih _).2, (join_has s p).1, (join_has s p).2]
    exact ⟨rfl, rfl⟩
theorem joinD_lenS (n : Nat) (fs : List FunD) (r : RuleD) (o : Int) (hfp : ∀ i, i < fs.length → (fs.getD i default).params.length ≤ 1000) : (joinD n fs r o).length ≤ 1001 := by
  unfold joinD
  split
  · split <;> simp
  · split
    · split <;> simp
    · split
      · split
        · simp
        · unfold joinsF
          obtain ⟨i, hie⟩ : ∃ i, i = (o - (n : Int)).toNat := ⟨_, rfl⟩
          rw [← hie]
          by_cases hi : i < fs.length
          · have := hfp _ hi
            split
            · simp only [List.length_append, List.length_zip, List.length_singleton]; omega
            · simp
          · rw [show fs.getD i default = default by simp [List.getD, hi]]
            have hd : (default : FunD).params = [] := rfl
            split
            · simp [hd]
            · simp
      · simp
end Go.Proofs.YtglonlpfnllocaaGreatDoor
