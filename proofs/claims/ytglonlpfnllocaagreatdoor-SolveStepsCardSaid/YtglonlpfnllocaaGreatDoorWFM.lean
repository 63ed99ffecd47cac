/-
  Package solve: obey, whichever rule; how a solver begins in memory.
-/
import Derived.Test.YtglonlpfnllocaaGreatDoorVTM
import Derived.Test.YtglonlpfnllocaaGreatDoorV6M
import Derived.Test.YtglonlpfnllocaaGreatDoorV3M
namespace Go.Proofs.YtglonlpfnllocaaGreatDoor
open Go.RowKit Go.Extern.Stop Go.Stop Go.Extern Go.Maps

theorem SolOk.withRule {n : Nat} {fs : List FunD} {L : List (List Int)} {R : List RuleD} {s : SolD} (h : SolOk n fs L R s) (rl : Int → List RuleD) : CoreOk n fs.length { s with rules := rl } ∧ EdgeOk n { s with rules := rl } ∧ SoundD L { s with rules := rl } :=
  ⟨⟨h.core.len, h.core.row, h.core.kn, h.core.nodup, h.core.apart, h.core.nod⟩, ⟨h.edge.nod, h.edge.on⟩, ⟨h.sound.has, h.sound.edge⟩⟩
/-- A rule that fits is obeyed. -/
theorem obeyS_any {w : World} {B sb : Nat} {fs : List FunD} {m : SolB} {s : SolD} (h : SolM w B sb fs m s) (hF : FunsK w sb fs m s) {n : Nat} {L : List (List Int)} {R : List RuleD} (hs : SolOk n fs L R s) (ho : EdgeOnce s) (r : RuleD) (av : Value)
    (hfit : RuleFit n fs r) (hcl : ClR n fs L r) (hk : asks r → r.kind = kLoad ∨ r.kind = kStore ∨ r.kind = kCall) (hn : n * (n + fs.length) ≤ 900000) (hn1 : n + fs.length ≤ 999) (hrl : ∀ a, (s.rules a).length ≤ 1000) (hra : r.args.length ≤ 1000000)
    (hfp : ∀ i, i < fs.length → (fs.getD i default).params.length ≤ 1000) (hav : ∀ w', (∀ (k : Nat) (o : Obj), w.heap[k]? = some o → ¬ OwnB sb m s k → w'.heap[k]? = some o) → IsInts w' av r.args)
    (hkn : m.kn ≤ 1000000000000000000) (hen : m.en ≤ 1000000000000) (hrn : m.rn ≤ 1000000) :
    Calls Tryz.prog 28 #[.pointer (some ⟨sb, 0, none⟩), .agg #[.string (S r.kind), .int .i64 r.a, .int .i64 r.b, .int .i64 r.stmt, av]] w fun e w' => e = .returned (.tuple #[]) ∧ ObeyPost w B sb fs m s (s.obey n fs r) w' := by
  have hdue := due_few hs.core
  have hlen := hs.core.len
  by_cases hb : r.kind = kBase
  · have h1 := hfit.a
    have h2 := hfit.o hb
    refine (obeyS_base h n r av hb ⟨by unfold okI; constructor <;> omega, by unfold okI; constructor <;> omega⟩ (by unfold maxLen; omega) (by omega)).mono ?_
    rintro e w' ⟨he, m', q1, q2, q3, q4, q5⟩
    exact ⟨he, m', q1, q2.toR, by omega, by omega, by omega⟩
  by_cases hc : r.kind = kCopy
  · have h1 := hfit.a
    have h2 := hfit.b hb
    refine (obeyS_copy h n r av hc (joinOk_of hs.core hs.edge ho (by omega) (by omega) _ ⟨h1, h2⟩) (by unfold maxLen; omega) (by unfold maxLen; omega)).mono ?_
    rintro e w' ⟨he, m', q1, q2, q3, q4, q5⟩
    exact ⟨he, m', q1, q2.toR, by omega, by omega, by omega⟩
  have ha : asks r := ⟨hb, hc⟩
  obtain ⟨a0, a1⟩ := asked_nod hfit ha (hk ha)
  obtain ⟨X, hX⟩ : ∃ X : Nat, askedD r = (X : Int) := ⟨(askedD r).toNat, by omega⟩
  have hset : setAt s.has (X : Int) = s.has.getD X [] := by unfold setAt; rw [Int.toNat_natCast]
  have hobj : ∀ x ∈ s.has.getD X [], 0 ≤ x ∧ x < ((n + fs.length : Nat) : Int) := fun x q => by
    have := (hs.core.nod (X : Int) x ((hs.core.kn (X : Int) x).2 (Or.inl ⟨Int.natCast_nonneg _, by rw [hset]; exact q⟩))).2
    omega
  have hrowl : (s.has.getD X []).length ≤ n + fs.length := nodup_few ((hs.core.row X).imp fun q => (by omega)) hobj
  refine obeyS_ask h hF n r av X ⟨hlen.symm, by omega, hX, by omega, ⟨hb, hc⟩, hav, fun v hv => ?_, by have := hrl (X : Int); omega, by rw [hset]; omega, hfp, hra, fun o q => ?_, by unfold maxLen; omega, by unfold maxLen; omega, by unfold maxLen; omega, fun k hk2 j hj => ?_⟩
  · obtain ⟨va, vc, hva⟩ := isInts_form (hav w fun _ _ q _ => q)
    simp only [ruleCellsV, List.mem_cons, List.not_mem_nil, or_false] at hv
    rcases hv with rfl | rfl | rfl | rfl | rfl
    · rfl
    · rfl
    · rfl
    · rfl
    · rw [hva]; rfl
  · rw [hset] at q
    have := hobj o q
    exact ⟨by omega, by omega, fun _ _ => by omega⟩
  · obtain ⟨c5, e5, f5⟩ := hs.withRule (updF s.rules (X : Int) (s.rules (X : Int) ++ [r]))
    have hjp : ∀ o ∈ setAt s.has (X : Int), ∀ p ∈ joinD n fs r o, (0 ≤ p.1 ∧ p.1 < (n : Int)) ∧ (0 ≤ p.2 ∧ p.2 < (n : Int)) := fun o q p hp => by
      rw [hset] at q
      have := hobj o q
      exact hfit.join o (by omega) p hp
    have hjL : ∀ o ∈ setAt s.has (X : Int), ∀ p ∈ joinD n fs r o, ∀ x ∈ setAt L p.1, x ∈ setAt L p.2 := fun o q p hp => by
      refine hcl.ask ha o ?_ p hp
      rw [hX]
      exact hs.sound.has _ o ((hs.core.kn (X : Int) o).2 (Or.inl ⟨Int.natCast_nonneg _, q⟩))
    obtain ⟨j1, j2, -, -, -⟩ := joins_ok (((setAt s.has (X : Int)).take k).flatMap (joinD n fs r)) c5 e5 f5 (fun p hp => by
      obtain ⟨o, q, hj⟩ := List.mem_flatMap.1 hp
      exact hjp o (List.mem_of_mem_take q) p hj) (fun p hp => by
      obtain ⟨o, q, hj⟩ := List.mem_flatMap.1 hp
      exact hjL o (List.mem_of_mem_take q) p hj)
    have hmem : (setAt s.has (X : Int)).getD k 0 ∈ setAt s.has (X : Int) := by simp [List.getD, hk2]
    exact joinsOk_of (by omega) (by omega) _ j1 j2 (EdgeOnce.joins _ (fun a => ho a)) (fun p hp => hjp _ hmem p hp) j hj
/-- The program of a solver, as it stays readable. -/
def ProgK (w : World) (sb : Nat) (m : SolB) (s : SolD) (P : ProgD) : Prop := ∀ w', (∀ (k : Nat) (o : Obj), w.heap[k]? = some o → ¬ OwnB sb m s k → w'.heap[k]? = some o) → IsProg w' m.v1 m.v2 m.v3 P
theorem ProgK.step {w w' : World} {sb : Nat} {m m' : SolB} {s s' : SolD} {P : ProgD} (h : ProgK w sb m s P) (hs : SolStepR w w' sb m m' s s') : ProgK w' sb m' s' P := fun w2 hk => by
  rw [hs.at_.1, hs.at_.2.1, hs.at_.2.2]
  exact h w2 (hs.keeps hk)
theorem obey_rules_len (n : Nat) (fs : List FunD) (r : RuleD) (s : SolD) (a : Int) : ((s.obey n fs r).rules a).length ≤ (s.rules a).length + 1 := by
  unfold SolD.obey
  split
  · rw [await_rules]; omega
  split
  · rw [(join_has _ _).2]; omega
  rw [(joins_has _ _).2]
  show (updF s.rules (askedD r) _ a).length ≤ _
  unfold updF
  split
  · rename_i e; rw [e]; simp
  · omega
theorem obeys_rules_len (n : Nat) (fs : List FunD) (rs : List RuleD) (a : Int) : ∀ s : SolD, ((rs.foldl (SolD.obey n fs) s).rules a).length ≤ (s.rules a).length + rs.length := by
  induction rs with
  | nil => exact fun s => Nat.le_refl _
  | cons r rs ih =>
    intro s
    rw [List.foldl_cons, List.length_cons]
    have h1 := ih (s.obey n fs r)
    have h2 := obey_rules_len n fs r s a
    omega
end Go.Proofs.YtglonlpfnllocaaGreatDoor
