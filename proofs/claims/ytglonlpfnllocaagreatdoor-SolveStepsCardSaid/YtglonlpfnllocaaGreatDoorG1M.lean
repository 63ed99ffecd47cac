/-
  The document's answers on sets: SetError and Has of package fingerpostref1, by contracts.
-/
import Derived.Test.YtglonlpfnllocaaGreatDoorXSM
import Derived.Test.YtglonlpfnllocaaGreatDoorXMM
import Derived.Test.YtglonlpfnllocaaGreatDoorPJM
import Derived.Test.YtglonlpfnllocaaGreatDoorXCM
import Derived.Test.YtglonlpfnllocaaGreatDoorCRM
import Derived.Deep.RegionHeld3
import Derived.Test.YtglonlpfnllocaaGreatDoorXTM
import Derived.BigQuiet
namespace Go.Proofs.YtglonlpfnllocaaGreatDoor
open Go.RowKit Go.Extern.Stop Go.Stop Go.Extern

set_option maxHeartbeats 1000000 in
theorem refErr_bound (zs : List Int) (v : Value) (w : World) (hm : zs.length ≤ 1000000) (h : IsInts w v zs) (hin : ¬ InB zs) :
    Calls Tryz.prog 23 #[v] w fun e w' => e = .returned (.int .i64 2) ∧ Below w.heap.size w w' := by
  have HI : Hid (¬ InB zs) := hin
  clear hin
  rcases h with ⟨hz, b, c, rfl⟩ | ⟨hz, b, o, c, rfl, hc⟩
  · subst hz
    exact absurd (fun j hj => absurd hj (Nat.not_lt_zero _)) HI.out
  · have HC : Hid (∀ j, j < zs.length → w.cell? ⟨b, o + j, none⟩ = some (.int .i64 (zs.getD j 0))) := hc
    clear hc hz
    generalize hn : zs.length = n at *
    have HN : Hid (zs.length = n) := hn
    clear hn
    go_enter Tryz.func23, Tryz.ntmps23
    go_wp2_with fail
    go_loopw [3] (fun t wr => ∃ k : Nat, k ≤ n ∧ t = .int .i64 k ∧ wr = w ∧ ∀ j, j < k → 0 ≤ zs.getD j 0 ∧ zs.getD j 0 < 1000) (fun t _ => (n - intOf t).toNat)
    case atStart => exact ⟨0, Nat.zero_le _, rfl, rfl, fun j hj => absurd hj (Nat.not_lt_zero _)⟩
    case round =>
      obtain ⟨k, hk, rfl, rfl, hall⟩ := hrel
      have HA : Hid (∀ j, j < k → 0 ≤ zs.getD j 0 ∧ zs.getD j 0 < 1000) := hall
      clear hall
      by_cases hlt : k < n
      · have e1 := HC.out k hlt
        by_cases hb : 0 ≤ zs.getD k 0 ∧ zs.getD k 0 < 1000
        · have HB : Hid (0 ≤ zs.getD k 0 ∧ zs.getD k 0 < 1000) := hb
          generalize zs.getD k 0 = z at e1 hb
          obtain ⟨e3, e4⟩ := hb
          go_wp2_with fail
          go_roundw
          case rel =>
            refine ⟨k + 1, hlt, by go_num, trivial, fun j hj => ?_⟩
            rcases Nat.lt_succ_iff_lt_or_eq.1 hj with g | g
            · exact HA.out j g
            · rw [g]; exact HB.out
          case measure => simp [intOf]; omega
        · clear HA
          generalize zs.getD k 0 = z at e1 hb
          by_cases e3 : z < 0
          · clear hb
            go_wp2_with fail
            go_ret
            exact ⟨rfl, Below.refl _ _⟩
          · have e4 : 1000 ≤ z := by omega
            clear hb
            go_wp2_with fail
            go_ret
            exact ⟨rfl, Below.refl _ _⟩
      · refine absurd (fun j hj => HA.out j ?_) HI.out
        rw [HN.out] at hj
        omega

set_option maxHeartbeats 1000000 in
theorem refErr_ok (zs : List Int) (v : Value) (w : World) (hm : zs.length ≤ 1000000) (h : IsInts w v zs) (hin : InB zs) (hr : Rise zs) :
    Calls Tryz.prog 23 #[v] w fun e w' => e = .returned (.int .i64 0) ∧ Below w.heap.size w w' := by
  have HI : Hid (InB zs) := hin
  have HR : Hid (Rise zs) := hr
  clear hin hr
  rcases h with ⟨hz, b, c, rfl⟩ | ⟨hz, b, o, c, rfl, hc⟩
  · subst hz
    go_enter Tryz.func23, Tryz.ntmps23
    go_wp2_with fail
    go_loopw [3] (fun t wr => t = .int .i64 0 ∧ wr = w) (fun _ _ => 0)
    case atStart => exact ⟨rfl, rfl⟩
    case round =>
      obtain ⟨rfl, rfl⟩ := hrel
      go_wp2_with fail
      go_loopw [4] (fun t wr2 => t = .int .i64 1 ∧ wr2 = wr) (fun _ _ => 0)
      case atStart => exact ⟨rfl, rfl⟩
      case round =>
        obtain ⟨rfl, rfl⟩ := hrel
        go_wp2_with fail
        go_ret
        exact ⟨rfl, Below.refl _ _⟩
  · have HC : Hid (∀ j, j < zs.length → w.cell? ⟨b, o + j, none⟩ = some (.int .i64 (zs.getD j 0))) := hc
    clear hc
    have hp : 0 < zs.length := List.length_pos_iff.2 hz
    clear hz
    generalize hn : zs.length = n at *
    have HN : Hid (zs.length = n) := hn
    clear hn
    go_enter Tryz.func23, Tryz.ntmps23
    go_wp2_with fail
    go_loopw [3] (fun t wr => ∃ k : Nat, k ≤ n ∧ t = .int .i64 k ∧ wr = w) (fun t _ => (n - intOf t).toNat)
    case atStart => exact ⟨0, Nat.zero_le _, rfl, rfl⟩
    case round =>
      obtain ⟨k, hk, rfl, rfl⟩ := hrel
      by_cases hlt : k < n
      · have e1 := HC.out k hlt
        have e2 := HI.out k (by rw [HN.out]; exact hlt)
        generalize zs.getD k 0 = z at e1 e2
        obtain ⟨e3, e4⟩ := e2
        go_wp2_with fail
        go_roundw
        case rel => exact ⟨k + 1, hlt, by go_num, trivial⟩
        case measure => simp [intOf]; omega
      · go_wp2_with fail
        clear hlt hk
        obtain ⟨w0, rfl⟩ : ∃ w0, w0 = wr := ⟨_, rfl⟩
        go_loopw [4] (fun t wr => ∃ k : Nat, k + 1 ≤ n ∧ t = .int .i64 (k + 1) ∧ Below w0.heap.size w0 wr) (fun t _ => (n - intOf t).toNat)
        case atStart => exact ⟨0, by omega, rfl, Below.refl _ _⟩
        case round =>
          obtain ⟨k, hk, rfl, hB⟩ := hrel
          by_cases hlt : k + 1 < n
          · have e1 := cell_keep hB (HC.out k (by omega))
            have e2 := cell_keep hB (HC.out (k + 1) hlt)
            have e3 := HR.out k (by rw [HN.out]; exact hlt)
            generalize zs.getD k 0 = y at e1 e3
            generalize zs.getD (k + 1) 0 = z at e2 e3
            go_wp2
            go_quiet (fail)
            go_wp2
            go_roundw
            case rel => exact ⟨k + 1, by omega, by go_num, below_drewN hB _⟩
            case measure => simp [intOf]; omega
          · go_wp2
            go_ret
            exact ⟨rfl, hB⟩

set_option maxHeartbeats 1000000 in
theorem refErr_order (zs : List Int) (v : Value) (w : World) (hm : zs.length ≤ 1000000) (h : IsInts w v zs) (hin : InB zs) (hr : ¬ Rise zs) :
    Calls Tryz.prog 23 #[v] w fun e w' => e = .returned (.int .i64 10) ∧ Below w.heap.size w w' := by
  have HI : Hid (InB zs) := hin
  have HR : Hid (¬ Rise zs) := hr
  clear hin hr
  rcases h with ⟨hz, b, c, rfl⟩ | ⟨hz, b, o, c, rfl, hc⟩
  · subst hz
    exact absurd (fun j hj => absurd hj (Nat.not_lt_zero _)) HR.out
  · have HC : Hid (∀ j, j < zs.length → w.cell? ⟨b, o + j, none⟩ = some (.int .i64 (zs.getD j 0))) := hc
    clear hc
    have hp : 0 < zs.length := List.length_pos_iff.2 hz
    clear hz
    generalize hn : zs.length = n at *
    have HN : Hid (zs.length = n) := hn
    clear hn
    go_enter Tryz.func23, Tryz.ntmps23
    go_wp2_with fail
    go_loopw [3] (fun t wr => ∃ k : Nat, k ≤ n ∧ t = .int .i64 k ∧ wr = w) (fun t _ => (n - intOf t).toNat)
    case atStart => exact ⟨0, Nat.zero_le _, rfl, rfl⟩
    case round =>
      obtain ⟨k, hk, rfl, rfl⟩ := hrel
      by_cases hlt : k < n
      · have e1 := HC.out k hlt
        have e2 := HI.out k (by rw [HN.out]; exact hlt)
        generalize zs.getD k 0 = z at e1 e2
        obtain ⟨e3, e4⟩ := e2
        go_wp2_with fail
        go_roundw
        case rel => exact ⟨k + 1, hlt, by go_num, trivial⟩
        case measure => simp [intOf]; omega
      · go_wp2_with fail
        clear hlt hk
        obtain ⟨w0, rfl⟩ : ∃ w0, w0 = wr := ⟨_, rfl⟩
        go_loopw [4] (fun t wr => ∃ k : Nat, k + 1 ≤ n ∧ t = .int .i64 (k + 1) ∧ Below w0.heap.size w0 wr ∧ ∀ j, j < k → zs.getD j 0 < zs.getD (j + 1) 0) (fun t _ => (n - intOf t).toNat)
        case atStart => exact ⟨0, by omega, rfl, Below.refl _ _, fun j hj => absurd hj (Nat.not_lt_zero _)⟩
        case round =>
          obtain ⟨k, hk, rfl, hB, hall⟩ := hrel
          have HA : Hid (∀ j, j < k → zs.getD j 0 < zs.getD (j + 1) 0) := hall
          clear hall
          by_cases hlt : k + 1 < n
          · have e1 := cell_keep hB (HC.out k (by omega))
            have e2 := cell_keep hB (HC.out (k + 1) hlt)
            by_cases hlt2 : zs.getD k 0 < zs.getD (k + 1) 0
            · have HB : Hid (zs.getD k 0 < zs.getD (k + 1) 0) := hlt2
              generalize zs.getD k 0 = y at e1 hlt2
              generalize zs.getD (k + 1) 0 = z at e2 hlt2
              go_wp2
              go_quiet (fail)
              go_wp2
              go_roundw
              case rel =>
                refine ⟨k + 1, by omega, by go_num, below_drewN hB _, fun j hj => ?_⟩
                rcases Nat.lt_succ_iff_lt_or_eq.1 hj with g | g
                · exact HA.out j g
                · rw [g]; exact HB.out
              case measure => simp [intOf]; omega
            · have hge : zs.getD (k + 1) 0 ≤ zs.getD k 0 := by omega
              clear hlt2 HA
              generalize zs.getD k 0 = y at e1 hge
              generalize zs.getD (k + 1) 0 = z at e2 hge
              go_wp2
              go_quiet (fail)
              go_wp2
              go_ret
              exact ⟨rfl, below_drewN hB _⟩
          · refine absurd (fun j hj => HA.out j ?_) HR.out
            rw [HN.out] at hj
            omega

set_option maxHeartbeats 1000000 in
theorem refHas_any (zs : List Int) (v : Value) (x : Int) (w : World) (hm : zs.length ≤ 1000000) (h : IsInts w v zs) :
    Calls Tryz.prog 46 #[v, .int .i64 x] w fun e w' => e = .returned (.bool (zs.contains x)) ∧ w' = w := by
  rcases h with ⟨hz, b, c, rfl⟩ | ⟨hz, b, o, c, rfl, hc⟩
  · subst hz
    go_enter Tryz.func46, Tryz.ntmps46
    go_wp2_with fail
    go_loop [5] (fun t => t = .int .i64 0) (fun _ => 0)
    case atStart => rfl
    case round =>
      subst hrel
      go_wp2
      go_ret
      exact ⟨rfl, rfl⟩
  · have HC : Hid (∀ j, j < zs.length → w.cell? ⟨b, o + j, none⟩ = some (.int .i64 (zs.getD j 0))) := hc
    clear hc hz
    generalize hn : zs.length = n at *
    have HN : Hid (zs.length = n) := hn
    clear hn
    go_enter Tryz.func46, Tryz.ntmps46
    go_wp2_with fail
    go_loop [5] (fun t => ∃ k : Nat, k ≤ n ∧ t = .int .i64 k ∧ ∀ j, j < k → zs.getD j 0 ≠ x) (fun t => (n - intOf t).toNat)
    case atStart => exact ⟨0, Nat.zero_le _, rfl, fun j hj => absurd hj (Nat.not_lt_zero _)⟩
    case round =>
      obtain ⟨k, hk, rfl, hall⟩ := hrel
      have HA : Hid (∀ j, j < k → zs.getD j 0 ≠ x) := hall
      clear hall
      by_cases hlt : k < n
      · have e1 := HC.out k hlt
        have hkl : k < zs.length := by rw [HN.out]; exact hlt
        obtain ⟨z, hze⟩ : ∃ z, z = zs.getD k 0 := ⟨_, rfl⟩
        rw [← hze] at e1
        have HZ : Hid (z = zs.getD k 0 ∧ k < zs.length) := ⟨hze, hkl⟩
        clear hze hkl
        cases hzx : (z == x) with
        | true =>
          go_wp2
          go_ret
          refine ⟨?_, rfl⟩
          have : x ∈ zs := by
            rw [← beq_iff_eq.1 hzx, HZ.out.1]
            simp [List.getD, HZ.out.2]
          rw [decide_eq_true this]
          rfl
        | false =>
          have HNE : Hid (z ≠ x) := beq_eq_false_iff_ne.1 hzx
          go_wp2
          go_round
          case rel =>
            refine ⟨k + 1, hlt, by go_num, fun j hj => ?_⟩
            rcases Nat.lt_succ_iff_lt_or_eq.1 hj with g | g
            · exact HA.out j g
            · rw [g, ← HZ.out.1]; exact HNE.out
          case measure => simp [intOf]; omega
      · go_wp2
        go_ret
        refine ⟨?_, rfl⟩
        have : ¬ x ∈ zs := by
          intro hc
          obtain ⟨j, hj, e⟩ := List.mem_iff_getElem.1 hc
          exact absurd (by simp [List.getD, hj, e]) (HA.out j (by rw [HN.out] at hj; omega))
        rw [decide_eq_false this]
        rfl

end Go.Proofs.YtglonlpfnllocaaGreatDoor

/-
  The document's edges, asked pair by pair: plain.
-/
namespace Go.Proofs.YtglonlpfnllocaaGreatDoor
open Go.RowKit Go.Extern.Stop Go.Stop Go.Extern

/-- Does function f, called by a rule, take what a has to b? -/
def callB (r : RuleD) (f : FunD) (a b : Int) : Bool :=
  (a == f.ret && b == r.b) || (List.range f.params.length).any fun i => a == r.args.getD i 0 && b == f.params.getD i 0
/-- Does a rule take what a has to b? -/
def isEdgeB (P : ProgD) (hs : List (List Int)) (r : RuleD) (a b : Int) : Bool :=
  if r.kind = kCopy then a == r.a && b == r.b
  else if r.kind = kLoad then b == r.b && decide (a < (hs.length : Int)) && (setAt hs r.a).contains a
  else if r.kind = kStore then a == r.a && decide (b < (hs.length : Int)) && (setAt hs r.b).contains b
  else if r.kind = kCall then (List.range P.funs.length).any fun f => (setAt hs r.a).contains ((hs.length : Int) + f) && decide ((P.funs.getD f default).params.length = r.args.length) && callB r (P.funs.getD f default) a b
  else false
theorem callB_iff (r : RuleD) (f : FunD) (hl : f.params.length = r.args.length) (a b : Int) : callB r f a b = true ↔ (a, b) ∈ joinsF f r := by
  unfold callB joinsF
  rw [if_pos hl, List.mem_append, List.mem_singleton, Bool.or_eq_true, List.any_eq_true, or_comm]
  constructor
  · rintro (⟨i, hi, h⟩ | h)
    · left
      rw [Bool.and_eq_true, beq_iff_eq, beq_iff_eq] at h
      have hi' := List.mem_range.1 hi
      refine List.mem_iff_getElem.2 ⟨i, by rw [List.length_zip]; omega, ?_⟩
      rw [List.getElem_zip]
      have h1 : r.args.getD i 0 = r.args[i] := by simp [List.getD, show i < r.args.length by omega]
      have h2 : f.params.getD i 0 = f.params[i] := by simp [List.getD, hi']
      rw [h.1, h.2, h1, h2]
    · right
      rw [Bool.and_eq_true, beq_iff_eq, beq_iff_eq] at h
      rw [h.1, h.2]
  · rintro (h | h)
    · left
      obtain ⟨i, hi, he⟩ := List.mem_iff_getElem.1 h
      rw [List.length_zip] at hi
      rw [List.getElem_zip] at he
      refine ⟨i, List.mem_range.2 (by omega), ?_⟩
      have h1 : r.args.getD i 0 = r.args[i] := by simp [List.getD, show i < r.args.length by omega]
      have h2 : f.params.getD i 0 = f.params[i] := by simp [List.getD, show i < f.params.length by omega]
      injection he with e1 e2
      rw [Bool.and_eq_true, beq_iff_eq, beq_iff_eq, h1, h2]
      exact ⟨e1.symm, e2.symm⟩
    · right
      injection h with e1 e2
      rw [Bool.and_eq_true, beq_iff_eq, beq_iff_eq]
      exact ⟨e1, e2⟩
theorem kinds_ne : kLoad ≠ kCopy ∧ kStore ≠ kCopy ∧ kCall ≠ kCopy ∧ kStore ≠ kLoad ∧ kCall ≠ kLoad ∧ kCall ≠ kStore ∧ kBase ≠ kCopy ∧ kBase ≠ kLoad ∧ kBase ≠ kStore ∧ kBase ≠ kCall := by decide
/-- The document's edges are those that the rules join. -/
theorem isEdge_iff {P : ProgD} {hs : List (List Int)} (hc : checkE P = none) (h : SetsOk P hs) (r : RuleD) (hr : r ∈ rulesD P) (a b : Int) : isEdgeB P hs r a b = true ↔ (a, b) ∈ followD P hs r := by
  obtain ⟨ra, rb, -, -⟩ := rule_names hc r hr
  have hset : ∀ k x, x ∈ setAt hs k → 0 ≤ x ∧ x < (hs.length : Int) + P.funs.length := fun k x hx => by
    have := setsOk_mem h k.toNat x hx
    omega
  unfold isEdgeB followD copyD
  by_cases e1 : r.kind = kCopy
  · have hn : askedD r < 0 := by
      unfold askedD
      rw [if_neg (by rw [e1]; decide), if_neg (by rw [e1]; decide), if_neg (by rw [e1]; decide)]; decide
    rw [if_pos e1, if_pos e1, if_pos hn, List.append_nil, List.mem_singleton, Bool.and_eq_true, beq_iff_eq, beq_iff_eq, Prod.mk.injEq]
  rw [if_neg e1, if_neg e1, List.nil_append]
  by_cases e2 : r.kind = kLoad
  · have hask : askedD r = r.a := by unfold askedD; rw [if_pos e2]
    rw [if_pos e2, hask, if_neg (by omega), List.mem_flatMap]
    simp only [Bool.and_eq_true, beq_iff_eq, decide_eq_true_eq, List.contains_iff_mem]
    constructor
    · rintro ⟨⟨h1, h2⟩, h3⟩
      refine ⟨a, h3, ?_⟩
      unfold joinD
      rw [if_pos e2, if_pos h2, h1]
      exact List.mem_singleton.2 rfl
    · rintro ⟨o, ho, hj⟩
      unfold joinD at hj
      rw [if_pos e2] at hj
      split at hj
      · have := List.mem_singleton.1 hj
        injection this with q1 q2
        subst q1
        exact ⟨⟨q2, by assumption⟩, ho⟩
      · cases hj
  rw [if_neg e2]
  by_cases e3 : r.kind = kStore
  · have hask : askedD r = r.b := by unfold askedD; rw [if_neg e2, if_neg (by rw [e3]; decide), if_pos e3]
    have hb := (rb (by rw [e3]; decide)).1
    rw [if_pos e3, hask, if_neg (by omega), List.mem_flatMap]
    simp only [Bool.and_eq_true, beq_iff_eq, decide_eq_true_eq, List.contains_iff_mem]
    constructor
    · rintro ⟨⟨h1, h2⟩, h3⟩
      refine ⟨b, h3, ?_⟩
      unfold joinD
      rw [if_neg e2, if_pos e3, if_pos h2, h1]
      exact List.mem_singleton.2 rfl
    · rintro ⟨o, ho, hj⟩
      unfold joinD at hj
      rw [if_neg e2, if_pos e3] at hj
      split at hj
      · have := List.mem_singleton.1 hj
        injection this with q1 q2
        subst q2
        exact ⟨⟨q1, by assumption⟩, ho⟩
      · cases hj
  rw [if_neg e3]
  by_cases e4 : r.kind = kCall
  · have hask : askedD r = r.a := by unfold askedD; rw [if_neg e2, if_pos e4]
    rw [if_pos e4, hask, if_neg (by omega), List.mem_flatMap, List.any_eq_true]
    constructor
    · rintro ⟨f, hf, h1⟩
      simp only [Bool.and_eq_true, decide_eq_true_eq, List.contains_iff_mem] at h1
      obtain ⟨⟨h1, h2⟩, h3⟩ := h1
      refine ⟨(hs.length : Int) + f, h1, ?_⟩
      unfold joinD
      rw [if_neg e2, if_neg e3, if_pos e4, if_neg (by omega), show ((hs.length : Int) + (f : Int) - (hs.length : Int)).toNat = f by omega]
      exact (callB_iff r _ h2 a b).1 h3
    · rintro ⟨o, ho, hj⟩
      unfold joinD at hj
      rw [if_neg e2, if_neg e3, if_pos e4] at hj
      have hob := hset _ _ ho
      split at hj
      · cases hj
      · rename_i hno
        have hl : (P.funs.getD (o - hs.length).toNat default).params.length = r.args.length := by
          unfold joinsF at hj
          split at hj
          · assumption
          · cases hj
        refine ⟨(o - hs.length).toNat, List.mem_range.2 (by omega), ?_⟩
        simp only [Bool.and_eq_true, decide_eq_true_eq, List.contains_iff_mem]
        refine ⟨⟨?_, hl⟩, (callB_iff r _ hl a b).2 hj⟩
        rw [show (hs.length : Int) + (((o - hs.length).toNat : Nat) : Int) = o by omega]
        exact ho
  · rw [if_neg e4]
    have hn : askedD r < 0 := by
      unfold askedD
      rw [if_neg e2, if_neg e4, if_neg e3]; decide
    rw [if_pos hn]
    simp
/-- The document's edges, in its order. -/
def nonBase (P : ProgD) : List RuleD := (rulesD P).filter fun r => !(r.kind == kBase)
def pairB (P : ProgD) (hs : List (List Int)) (a b : Nat) : Bool := !(a == b) && (nonBase P).any fun r => isEdgeB P hs r a b
def rowE (P : ProgD) (hs : List (List Int)) (a m : Nat) : List Pair := ((List.range m).filter fun b : Nat => pairB P hs a b).map fun b : Nat => ((a : Int), (b : Int))
def refEdges (P : ProgD) (hs : List (List Int)) (m : Nat) : List Pair := (List.range m).flatMap fun a => rowE P hs a hs.length
theorem base_follow {P : ProgD} {hs : List (List Int)} {r : RuleD} (h : r.kind = kBase) : followD P hs r = [] := by
  have hn : askedD r < 0 := by
    unfold askedD
    rw [if_neg (by rw [h]; decide), if_neg (by rw [h]; decide), if_neg (by rw [h]; decide)]; decide
  unfold followD copyD
  rw [if_neg (by rw [h]; decide), if_pos hn]
  rfl
theorem refEdges_mem {P : ProgD} {hs : List (List Int)} (hc : checkE P = none) (h : SetsOk P hs) (p : Pair) : p ∈ refEdges P hs hs.length ↔ p ∈ foundD P hs ∧ p.1 ≠ p.2 := by
  unfold refEdges rowE
  rw [List.mem_flatMap]
  constructor
  · rintro ⟨a, ha, hp⟩
    obtain ⟨b, hb, rfl⟩ := List.mem_map.1 hp
    obtain ⟨hb1, hb2⟩ := List.mem_filter.1 hb
    unfold pairB at hb2
    rw [Bool.and_eq_true, List.any_eq_true] at hb2
    obtain ⟨hne, r, hr, he⟩ := hb2
    obtain ⟨hr1, hr2⟩ := List.mem_filter.1 hr
    refine ⟨?_, fun e => ?_⟩
    · unfold foundD
      exact List.mem_flatMap.2 ⟨r, hr1, (isEdge_iff hc h r hr1 _ _).1 he⟩
    · have e' : (a : Int) = (b : Int) := e
      have : a = b := by omega
      simp [this] at hne
  · rintro ⟨hp, hne⟩
    obtain ⟨h1, h2⟩ := found_nodes hc h p hp
    unfold foundD at hp
    obtain ⟨r, hr, hrp⟩ := List.mem_flatMap.1 hp
    refine ⟨p.1.toNat, List.mem_range.2 (by omega), List.mem_map.2 ⟨p.2.toNat, List.mem_filter.2 ⟨List.mem_range.2 (by omega), ?_⟩, ?_⟩⟩
    · unfold pairB
      rw [Bool.and_eq_true, List.any_eq_true]
      refine ⟨?_, r, List.mem_filter.2 ⟨hr, ?_⟩, ?_⟩
      · have : p.1.toNat ≠ p.2.toNat := fun e => hne (by omega)
        simpa using this
      · have : r.kind ≠ kBase := fun e => by rw [base_follow e] at hrp; cases hrp
        simpa using this
      · rw [isEdge_iff hc h r hr, show ((p.1.toNat : Nat) : Int) = p.1 by omega, show ((p.2.toNat : Nat) : Int) = p.2 by omega]
        exact hrp
    · rw [show ((p.1.toNat : Nat) : Int) = p.1 by omega, show ((p.2.toNat : Nat) : Int) = p.2 by omega]
theorem range_up (n : Nat) : (List.range n).Pairwise (· < ·) := List.pairwise_lt_range
theorem rowE_up (P : ProgD) (hs : List (List Int)) (a m : Nat) : (rowE P hs a m).Pairwise ltE := by
  unfold rowE
  rw [List.pairwise_map]
  refine ((range_up m).filter _).imp ?_
  intro b b' hlt
  unfold ltE
  right
  exact ⟨rfl, by show (b : Int) < (b' : Int); omega⟩
theorem refEdges_up (P : ProgD) (hs : List (List Int)) (m : Nat) : (refEdges P hs m).Pairwise ltE := by
  unfold refEdges
  induction m with
  | zero => exact List.Pairwise.nil
  | succ m ih =>
    rw [List.range_succ, List.flatMap_append, List.pairwise_append]
    refine ⟨ih, by simpa using rowE_up P hs m hs.length, fun p hp q hq => ?_⟩
    obtain ⟨a, ha, hpa⟩ := List.mem_flatMap.1 hp
    obtain ⟨b, -, rfl⟩ := List.mem_map.1 hpa
    have hq' : q ∈ rowE P hs m hs.length := by simpa using hq
    obtain ⟨b', -, rfl⟩ := List.mem_map.1 hq'
    have := List.mem_range.1 ha
    unfold ltE
    left
    show (a : Int) < (m : Int)
    omega
/-- The document's edges are the edges of the rules. -/
theorem refEdges_set {P : ProgD} {hs : List (List Int)} (hc : checkE P = none) (h : SetsOk P hs) {es : List Pair} (he : EdgeSet (foundD P hs) es) : refEdges P hs hs.length = es :=
  up_ext (refEdges_up P hs hs.length) he.up fun p => by rw [refEdges_mem hc h, he.mem]
end Go.Proofs.YtglonlpfnllocaaGreatDoor

/-
  The document's NodesOf and PlaceOf, by contracts.
-/
namespace Go.Proofs.YtglonlpfnllocaaGreatDoor
open Go.RowKit Go.Extern.Stop Go.Stop Go.Extern

set_option maxRecDepth 100000 in
set_option maxHeartbeats 4000000 in
theorem refNodes_any (P : ProgD) (v1 v2 v3 : Value) (w : World) (hs : SmallP P) (h : IsProg w v1 v2 v3 P) :
    Calls Tryz.prog 49 #[.agg #[v1, v2, v3]] w fun e w' => e = .returned (.int .i64 ((places P P.stmts.length : Nat) : Int)) ∧ Below w.heap.size w w' := by
  have H : Hid (IsProg w v1 v2 v3 P) := h
  obtain ⟨⟨a1, c1, rfl, -, -⟩, ⟨a2, c2, rfl, -, -⟩, ⟨a3, c3, rfl, -, -⟩⟩ := h
  obtain ⟨n1, hn1⟩ : ∃ m, m = P.vars.length := ⟨_, rfl⟩
  obtain ⟨n2, hn2⟩ : ∃ m, m = P.funs.length := ⟨_, rfl⟩
  obtain ⟨n3, hn3⟩ : ∃ m, m = P.stmts.length := ⟨_, rfl⟩
  have HN : Hid (n1 = P.vars.length ∧ n2 = P.funs.length ∧ n3 = P.stmts.length) := ⟨hn1, hn2, hn3⟩
  have hs1 : n1 ≤ 100000 := by rw [hn1]; exact hs.1
  have hs3 : n3 ≤ 100000 := by rw [hn3]; exact hs.2.2.1
  rw [← hn3]
  rw [← hn1, ← hn2, ← hn3] at H
  rw [← hn1, ← hn2]
  have HPL : Hid (∀ k, places P k ≤ n1 + k) := fun k => by rw [hn1]; exact places_le P k
  obtain ⟨W, hW⟩ : ∃ W, W = w.alloc (.cells #[.slice a1 n1 c1, .slice a2 n2 c2, .slice a3 n3 c3] 26) := ⟨_, rfl⟩
  have hBW : Below w.heap.size w W := by rw [hW]; exact below1 w _
  have hX : Box3 W w.heap.size (.slice a1 n1 c1) (.slice a2 n2 c2) (.slice a3 n3 c3) := by rw [hW]; exact box3_new w _ _ _ _
  have HP : Hid (IsProg W (.slice a1 n1 c1) (.slice a2 n2 c2) (.slice a3 n3 c3) P) := H.out.below hBW
  obtain ⟨p0, p1, p2⟩ := hX
  clear hn1 hn2 hn3 hs
  go_enter Tryz.func49, Tryz.ntmps49
  go_wp2_with fail
  rw [← hW]
  clear hW
  go_loopw [3, 4] (fun t u wr => ∃ k : Nat, k ≤ n3 ∧ t = .int .i64 ((places P k : Nat) : Int) ∧ u = .int .i64 k ∧ wr = W) (fun _ u _ => (n3 - intOf u).toNat)
  case atStart => exact ⟨0, Nat.zero_le _, by rw [HN.out.1]; simp [places], rfl, rfl⟩
  case round =>
    obtain ⟨k, hk, rfl, rfl, hwr⟩ := hrel
    obtain rfl := hwr.symm
    clear hwr
    obtain ⟨N, hNN⟩ : ∃ N, N = places P k := ⟨_, rfl⟩
    have hNb : N ≤ n1 + k := by rw [hNN]; exact HPL.out k
    rw [← hNN]
    by_cases hlt : k < n3
    · have hl : k < P.stmts.length := by rw [← HN.out.2.2]; exact hlt
      obtain ⟨_, _, hv, _, hst⟩ := HP.out.stmts
      obtain ⟨b, o, ha, ⟨pv, r0, -, -, -, -⟩⟩ := hst k hl
      obtain rfl : a3 = some ⟨b, o, none⟩ := by rw [← ha]; exact (Value.slice.inj hv).1
      obtain ⟨z, hz⟩ : ∃ z, z = P.stmts.getD k default := ⟨_, rfl⟩
      obtain ⟨bk, hbk⟩ : ∃ b, b = S z.kind := ⟨_, rfl⟩
      rw [← hz, ← hbk] at r0
      have hsucc := places_succ P k hl
      rw [← hz, ← hNN] at hsucc
      by_cases hkn : z.kind = kNew
      · have hkl : bk.toList = [110, 101, 119] := by rw [hbk, S_toList, hkn]; rfl
        have HSU : Hid (places P (k + 1) = N + 1) := by show places P (k + 1) = N + 1; rw [hsucc, hkn]; rfl
        clear hv hst ha hl hz hbk hsucc hkn hNN
        go_wp2_with fail
        go_roundw
        case rel => exact ⟨k + 1, hlt, by rw [HSU.out]; go_num, by go_num, trivial⟩
        case measure => simp [intOf]; omega
      · have hkl : (bk.toList == [110, 101, 119]) = false := beq_eq_false_iff_ne.2 (fun q => hkn (by rw [hbk, S_toList] at q; exact q))
        have HSU : Hid (places P (k + 1) = N) := by show places P (k + 1) = N; rw [hsucc, if_neg (by simpa using hkn)]; rfl
        clear hv hst ha hl hz hbk hsucc hkn hNN
        go_wp2_with fail
        go_roundw
        case rel => exact ⟨k + 1, hlt, by rw [HSU.out], by go_num, trivial⟩
        case measure => simp [intOf]; omega
    · have HF : Hid (N = places P n3) := by show N = _; rw [hNN, show k = n3 by omega]
      clear hNN
      go_wp2_with fail
      go_ret
      exact ⟨by rw [← HF.out]; rfl, hBW⟩

set_option maxRecDepth 100000 in
set_option maxHeartbeats 4000000 in
theorem refPlace_any (P : ProgD) (q : Int) (v1 v2 v3 : Value) (w : World) (hs : SmallP P) (h : IsProg w v1 v2 v3 P) (hc : checkE P = none) :
    Calls Tryz.prog 113 #[.agg #[v1, v2, v3], .int .i64 q] w fun e w' => e = .returned (.int .i64 (placeD P q)) ∧ Below w.heap.size w w' := by
  have H : Hid (IsProg w v1 v2 v3 P) := h
  have HTR : Hid (true = (checkE P).isNone) := by show true = _; rw [hc]; rfl
  obtain ⟨⟨a1, c1, rfl, -, -⟩, ⟨a2, c2, rfl, -, -⟩, ⟨a3, c3, rfl, -, -⟩⟩ := h
  obtain ⟨n1, hn1⟩ : ∃ m, m = P.vars.length := ⟨_, rfl⟩
  obtain ⟨n2, hn2⟩ : ∃ m, m = P.funs.length := ⟨_, rfl⟩
  obtain ⟨n3, hn3⟩ : ∃ m, m = P.stmts.length := ⟨_, rfl⟩
  have HN : Hid (n1 = P.vars.length ∧ n2 = P.funs.length ∧ n3 = P.stmts.length) := ⟨hn1, hn2, hn3⟩
  have hs1 : n1 ≤ 100000 := by rw [hn1]; exact hs.1
  have hs3 : n3 ≤ 100000 := by rw [hn3]; exact hs.2.2.1
  obtain ⟨R, hR⟩ : ∃ R, R = placeD P q := ⟨_, rfl⟩
  have HR : Hid (R = placeD P q) := hR
  rw [← hR]
  rw [← hn1, ← hn2, ← hn3] at H ⊢
  have HPL : Hid (∀ k, places P k ≤ n1 + k) := fun k => by rw [hn1]; exact places_le P k
  obtain ⟨W, hW⟩ : ∃ W, W = w.alloc (.cells #[.slice a1 n1 c1, .slice a2 n2 c2, .slice a3 n3 c3] 26) := ⟨_, rfl⟩
  have hBW : Below w.heap.size w W := by rw [hW]; exact below1 w _
  have hX : Box3 W w.heap.size (.slice a1 n1 c1) (.slice a2 n2 c2) (.slice a3 n3 c3) := by rw [hW]; exact box3_new w _ _ _ _
  have HP : Hid (IsProg W (.slice a1 n1 c1) (.slice a2 n2 c2) (.slice a3 n3 c3) P) := H.out.below hBW
  obtain ⟨p0, p1, p2⟩ := hX
  clear hn1 hn2 hn3 hs hR hc
  go_enter Tryz.func113, Tryz.ntmps113
  go_upto_region 1 with fail
  rw [← hW]
  clear hW
  by_cases g0 : q < 0
  · have hb : Hid (R = -1) := by show R = -1; rw [HR.out]; exact placeD_out HTR.out (fun x => by omega)
    go_wp2_with fail
    go_ret
    exact ⟨by rw [hb.out]; rfl, hBW⟩
  by_cases g1 : (n3 : Int) ≤ q
  · have hb : Hid (R = -1) := by show R = -1; rw [HR.out]; exact placeD_out HTR.out (fun x => by have := HN.out; omega)
    go_wp2_with fail
    go_ret
    exact ⟨by rw [hb.out]; rfl, hBW⟩
  obtain ⟨m, rfl⟩ : ∃ m : Nat, q = (m : Int) := ⟨q.toNat, by omega⟩
  have hlt : m < n3 := by omega
  have hl : m < P.stmts.length := by rw [← HN.out.2.2]; exact hlt
  obtain ⟨_, _, hv, _, hst⟩ := HP.out.stmts
  obtain ⟨b, o, ha, ⟨pv, r0, -, -, -, -⟩⟩ := hst m hl
  obtain rfl : a3 = some ⟨b, o, none⟩ := by rw [← ha]; exact (Value.slice.inj hv).1
  obtain ⟨z, hz⟩ : ∃ z, z = P.stmts.getD m default := ⟨_, rfl⟩
  obtain ⟨bk, hbk⟩ : ∃ b, b = S z.kind := ⟨_, rfl⟩
  rw [← hz, ← hbk] at r0
  by_cases hkn : z.kind = kNew
  rotate_left
  · have hb : Hid (R = -1) := by
      show R = -1
      rw [HR.out]
      exact placeD_out HTR.out (fun x => hkn (by have := x.2.2; rw [Int.toNat_natCast, ← hz] at this; exact this))
    have hkl : (bk.toList == [110, 101, 119]) = false := beq_eq_false_iff_ne.2 (fun q => hkn (by rw [hbk, S_toList] at q; exact q))
    clear hv hst ha hl hz hbk hkn
    go_wp2_with fail
    go_ret
    exact ⟨by rw [hb.out]; rfl, hBW⟩
  have hb : Hid (R = ((places P m : Nat) : Int)) := by
    show R = _
    rw [HR.out, placeD_in HTR.out ⟨by omega, by have := HN.out; omega, by rw [Int.toNat_natCast, ← hz]; exact hkn⟩]; rfl
  have hkl : bk.toList = [110, 101, 119] := by rw [hbk, S_toList, hkn]; rfl
  clear hv hst ha hl hz hbk hkn g0 g1
  go_wp2_with fail
  clear r0 hkl p0 p1
  go_loopw [5, 6] (fun t u wr => ∃ k : Nat, k ≤ m ∧ t = .int .i64 ((places P k : Nat) : Int) ∧ u = .int .i64 k ∧ wr = W) (fun _ u _ => (m - intOf u).toNat)
  case atStart => exact ⟨0, Nat.zero_le _, by rw [HN.out.1]; simp [places], rfl, rfl⟩
  case round =>
    obtain ⟨k, hk, rfl, rfl, hwr⟩ := hrel
    obtain rfl := hwr.symm
    clear hwr
    obtain ⟨N, hNN⟩ : ∃ N, N = places P k := ⟨_, rfl⟩
    have hNb : N ≤ n1 + k := by rw [hNN]; exact HPL.out k
    rw [← hNN]
    by_cases hkm : k < m
    · have hl : k < P.stmts.length := by rw [← HN.out.2.2]; omega
      obtain ⟨_, _, hv, _, hst⟩ := HP.out.stmts
      obtain ⟨b', o', ha, ⟨pv, r0, -, -, -, -⟩⟩ := hst k hl
      obtain ⟨rfl, rfl⟩ : b' = b ∧ o' = o := by
        have := (Value.slice.inj hv).1.trans ha
        cases this
        exact ⟨rfl, rfl⟩
      obtain ⟨z, hz⟩ : ∃ z, z = P.stmts.getD k default := ⟨_, rfl⟩
      obtain ⟨bk, hbk⟩ : ∃ b, b = S z.kind := ⟨_, rfl⟩
      rw [← hz, ← hbk] at r0
      have hsucc := places_succ P k hl
      rw [← hz, ← hNN] at hsucc
      have hkn3 : (k : Int) < (n3 : Int) := by omega
      by_cases hkn : z.kind = kNew
      · have hkl : bk.toList = [110, 101, 119] := by rw [hbk, S_toList, hkn]; rfl
        have HSU : Hid (places P (k + 1) = N + 1) := by show places P (k + 1) = N + 1; rw [hsucc, hkn]; rfl
        clear hv hst ha hl hz hbk hsucc hkn hNN
        go_wp2_with fail
        go_roundw
        case rel => exact ⟨k + 1, hkm, by rw [HSU.out]; go_num, by go_num, trivial⟩
        case measure => simp [intOf]; omega
      · have hkl : (bk.toList == [110, 101, 119]) = false := beq_eq_false_iff_ne.2 (fun q => hkn (by rw [hbk, S_toList] at q; exact q))
        have HSU : Hid (places P (k + 1) = N) := by show places P (k + 1) = N; rw [hsucc, if_neg (by simpa using hkn)]; rfl
        clear hv hst ha hl hz hbk hsucc hkn hNN
        go_wp2_with fail
        go_roundw
        case rel => exact ⟨k + 1, hkm, by rw [HSU.out], by go_num, trivial⟩
        case measure => simp [intOf]; omega
    · have HF : Hid (R = (N : Int)) := by show R = _; rw [hb.out, hNN, show k = m by omega]
      clear hNN
      go_wp2_with fail
      go_ret
      exact ⟨by rw [HF.out]; rfl, hBW⟩
end Go.Proofs.YtglonlpfnllocaaGreatDoor

/-
  The document's edges: is one an edge, by a contract.
-/
namespace Go.Proofs.YtglonlpfnllocaaGreatDoor
open Go.RowKit Go.Extern.Stop Go.Stop Go.Extern

theorem all_take_succG (p : Int → Bool) (zs : List Int) (k : Nat) (h : k < zs.length) (h1 : (zs.take k).all p = true) (h2 : p (zs.getD k 0) = true) : (zs.take (k + 1)).all p = true := by
  rw [take_snoc zs 0 k h, List.all_append, h1]
  simpa using h2
theorem all_at_no (p : Int → Bool) (zs : List Int) (k : Nat) (h : k < zs.length) (h2 : p (zs.getD k 0) = false) : zs.all p = false := by
  rw [List.all_eq_false]
  exact ⟨zs[k], List.getElem_mem h, by simpa [List.getD, h] using h2⟩
theorem any_take_no {α : Type} (d : α) (p : α → Bool) (zs : List α) (k : Nat) (h : k < zs.length) (h1 : (zs.take k).any p = false) (h2 : p (zs.getD k d) = false) : (zs.take (k + 1)).any p = false := by
  rw [take_snoc zs d k h, List.any_append, h1]
  simpa using h2
theorem any_range_step (p : Nat → Bool) (k : Nat) (h1 : (List.range k).any p = false) (h2 : p k = false) : (List.range (k + 1)).any p = false := by
  rw [List.range_succ, List.any_append, h1]
  simpa using h2
theorem any_range_at (p : Nat → Bool) (k n : Nat) (h : k < n) (h2 : p k = true) : (List.range n).any p = true :=
  List.any_eq_true.2 ⟨k, List.mem_range.2 h, h2⟩
theorem kd_eq {kd : ByteArray} {k : Bs} (h : kd.toList = k) (c : Bs) : (kd.toList == c) = (k == c) := by rw [h]
theorem ints_at {w : World} {pa : Option Addr} {n pc : Nat} {zs : List Int} (h : IsInts w (.slice pa n pc) zs) (hn : n = zs.length) (i : Nat) (hi : i < n) : ∃ b o, pa = some ⟨b, o, none⟩ ∧ w.cell? ⟨b, o + i, none⟩ = some (.int .i64 (zs.getD i 0)) := by
  rcases h with ⟨q, _⟩ | ⟨_, b, o, c, q, hc⟩
  · rw [hn, q] at hi; cases hi
  · injection q with q1 q2 q3
    exact ⟨b, o, q1, hc i (by omega)⟩
/-- One function of a call. -/
def callOne (hs : List (List Int)) (r : RuleD) (fs : List FunD) (a b : Int) (f : Nat) : Bool := (setAt hs r.a).contains ((hs.length : Int) + f) && decide ((fs.getD f default).params.length = r.args.length) && callB r (fs.getD f default) a b

set_option maxRecDepth 100000 in
set_option maxHeartbeats 16000000 in
theorem refIsEdge_any (P : ProgD) (v1 v2 v3 hv : Value) (hs : List (List Int)) (r : RuleD) (av : Value) (a b : Int) (w : World) (hS : SmallP P) (hc : checkE P = none) (h : IsProg w v1 v2 v3 P) (hH : IsSets w hv hs) (hok : SetsOk P hs) (hA : IsInts w av r.args) (hra : 0 ≤ r.a ∧ r.a.toNat < hs.length) (hrb : 0 ≤ r.b ∧ r.b.toNat < hs.length) (hkk : r.kind = kCopy ∨ r.kind = kLoad ∨ r.kind = kStore ∨ r.kind = kCall) :
    Calls Tryz.prog 114 #[.agg #[v1, v2, v3], .agg #[.string (S r.kind), .int .i64 r.a, .int .i64 r.b, .int .i64 r.stmt, av], hv, .int .i64 a, .int .i64 b] w fun e w' => e = .returned (.bool (isEdgeB P hs r a b)) ∧ Below w.heap.size w w' := by
  have H : Hid (IsProg w v1 v2 v3 P ∧ IsSets w hv hs ∧ IsInts w av r.args ∧ SetsOk P hs) := ⟨h, hH, hA, hok⟩
  obtain ⟨⟨a1, c1, rfl, -, -⟩, ⟨a2, c2, rfl, -, -⟩, ⟨a3, c3, rfl, -, -⟩⟩ := h
  obtain ⟨ha, hcc, rfl, -⟩ := hH
  obtain ⟨aa, ac, rfl⟩ := isInts_form hA
  obtain ⟨n1, hn1⟩ : ∃ m, m = P.vars.length := ⟨_, rfl⟩
  obtain ⟨n2, hn2⟩ : ∃ m, m = P.funs.length := ⟨_, rfl⟩
  obtain ⟨n3, hn3⟩ : ∃ m, m = P.stmts.length := ⟨_, rfl⟩
  obtain ⟨n, hnn⟩ : ∃ m, m = hs.length := ⟨_, rfl⟩
  obtain ⟨na, hna⟩ : ∃ m, m = r.args.length := ⟨_, rfl⟩
  obtain ⟨kd, hkd⟩ : ∃ kd, kd = S r.kind := ⟨_, rfl⟩
  have hkl : kd.toList = r.kind := by rw [hkd, S_toList]
  obtain ⟨ka, hka⟩ : ∃ k : Nat, r.a = (k : Int) := ⟨r.a.toNat, by omega⟩
  obtain ⟨kb, hkb⟩ : ∃ k : Nat, r.b = (k : Int) := ⟨r.b.toNat, by omega⟩
  obtain ⟨rs, hrs⟩ : ∃ z, z = r.stmt := ⟨_, rfl⟩
  obtain ⟨R, hR⟩ : ∃ R, R = isEdgeB P hs r a b := ⟨_, rfl⟩
  have HN : Hid (n1 = P.vars.length ∧ n2 = P.funs.length ∧ n3 = P.stmts.length ∧ n = hs.length ∧ na = r.args.length ∧ r.a = (ka : Int) ∧ r.b = (kb : Int)) := ⟨hn1, hn2, hn3, hnn, hna, hka, hkb⟩
  have HR : Hid (R = isEdgeB P hs r a b) := hR
  have hkan : ka < n := by omega
  have hkbn : kb < n := by omega
  have hkai : (ka : Int) < n := by omega
  have hkbi : (kb : Int) < n := by omega
  have hn2l : n2 ≤ 8 := by rw [hn2]; exact (right_small hc).2.2
  have hnl : n ≤ 1000 := by
    obtain ⟨s1, s2, s3⟩ := right_small hc
    have hpl := places_le P P.stmts.length
    have := hok.len
    omega
  rw [← hn1, ← hn2, ← hn3] at H ⊢
  rw [← hnn, ← hna] at H ⊢
  rw [← hkd, hka, hkb, ← hrs, ← hR]
  have KN : Hid (∀ wx, Below w.heap.size w wx → Calls Tryz.prog 49 #[.agg #[.slice a1 n1 c1, .slice a2 n2 c2, .slice a3 n3 c3]] wx fun e w' => e = .returned (.int .i64 (n : Int)) ∧ Below wx.heap.size wx w') := fun wx hb => by
    have := refNodes_any P _ _ _ wx hS (H.out.1.below hb)
    rw [← H.out.2.2.2.len, ← HN.out.2.2.2.1] at this
    exact this
  have KH : Hid (∀ wx k x, k < n → Below w.heap.size w wx → ∃ b o xa xn xc, ha = some ⟨b, o, none⟩ ∧ wx.cell? ⟨b, o + k, none⟩ = some (.slice xa xn xc) ∧ Calls Tryz.prog 46 #[.slice xa xn xc, .int .i64 x] wx fun e w' => e = .returned (.bool ((setAt hs (k : Int)).contains x)) ∧ w' = wx) := fun wx k x hk hb => by
    obtain ⟨a', c', e', q⟩ := H.out.2.1.below hb
    injection e' with e1 e2 e3
    obtain ⟨b, o, xv, q1, q2, q3⟩ := q k (by rw [← HN.out.2.2.2.1]; exact hk)
    obtain ⟨xa, xc, rfl⟩ := isInts_form q3
    refine ⟨b, o, xa, _, xc, by rw [e1, q1], q2, ?_⟩
    unfold setAt
    rw [Int.toNat_natCast]
    exact refHas_any _ _ x wx (by have := H.out.2.2.2.short hc k (by rw [← HN.out.2.2.2.1]; exact hk); omega) q3
  obtain ⟨W, hW⟩ : ∃ W, W = (w.alloc (.cells #[.slice a1 n1 c1, .slice a2 n2 c2, .slice a3 n3 c3] 26)).alloc (.cells #[.string kd, .int .i64 (ka : Int), .int .i64 (kb : Int), .int .i64 rs, .slice aa na ac] 124) := ⟨_, rfl⟩
  have hBW : Below w.heap.size w W := by rw [hW]; exact (below1 w _).alloc (by simp) _
  have HB2 : Hid (W.heap[w.heap.size]? = some (.cells #[.slice a1 n1 c1, .slice a2 n2 c2, .slice a3 n3 c3] 26 (0, 0)) ∧ W.heap[w.heap.size + 1]? = some (.cells #[.string kd, .int .i64 (ka : Int), .int .i64 (kb : Int), .int .i64 rs, .slice aa na ac] 124 (0, 0)) ∧ Below w.heap.size w W) := by
    refine ⟨?_, ?_, hBW⟩
    · rw [hW]; exact block_keep (below1 _ _) (heap_new w _)
    · rw [hW]
      have := heap_new (w.alloc (.cells #[.slice a1 n1 c1, .slice a2 n2 c2, .slice a3 n3 c3] 26)) (.cells #[.string kd, .int .i64 (ka : Int), .int .i64 (kb : Int), .int .i64 rs, .slice aa na ac] 124)
      simpa using this
  have HX : Hid (∀ wx, Below W.heap.size W wx → Box3 wx w.heap.size (.slice a1 n1 c1) (.slice a2 n2 c2) (.slice a3 n3 c3) ∧ wx.cell? ⟨w.heap.size + 1, 0, none⟩ = some (.string kd) ∧ wx.cell? ⟨w.heap.size + 1, 1, none⟩ = some (.int .i64 (ka : Int)) ∧ wx.cell? ⟨w.heap.size + 1, 2, none⟩ = some (.int .i64 (kb : Int)) ∧ wx.cell? ⟨w.heap.size + 1, 4, none⟩ = some (.slice aa na ac) ∧ Below w.heap.size w wx) := fun wx hb => by
    have h1 := block_keep hb HB2.out.1
    have h2 := block_keep hb HB2.out.2.1
    refine ⟨⟨?_, ?_, ?_⟩, ?_, ?_, ?_, ?_, HB2.out.2.2.trans (hb.mono HB2.out.2.2.size)⟩
    · rw [Lib.cell_of_heap h1]; rfl
    · rw [Lib.cell_of_heap h1]; rfl
    · rw [Lib.cell_of_heap h1]; rfl
    · rw [Lib.cell_of_heap h2]; rfl
    · rw [Lib.cell_of_heap h2]; rfl
    · rw [Lib.cell_of_heap h2]; rfl
    · rw [Lib.cell_of_heap h2]; rfl
  have hS3 : ∀ f ∈ P.funs, f.params.length ≤ 100000 := hS.2.2.2.1
  have HS3 : Hid (∀ f ∈ P.funs, f.params.length ≤ 100000) := hS3
  obtain ⟨⟨p0, p1, p2⟩, -, -, -, -, -⟩ := HX.out W (Below.refl _ _)
  clear hn1 hn2 hn3 hnn hna hkd hka hkb hrs hR hS hS3 hra hrb hok hA
  go_enter Tryz.func114, Tryz.ntmps114
  go_upto_region 1 with fail
  rw [← hW]
  clear hW
  go_wp2_with fail
  refine (KN.out W hBW).mono ?_
  rintro e w1 ⟨rfl, hb1⟩
  obtain ⟨⟨q0, q1, q2⟩, c0, c1', c2', c4, hBw1⟩ := HX.out w1 hb1
  have HB1 : Hid (Below W.heap.size W w1 ∧ Below w.heap.size w w1) := ⟨hb1, hBw1⟩
  clear p0 p1 p2 hb1 hBw1 hBW KN
  rcases hkk with hk | hk | hk | hk
  · have g0 : (kd.toList == [99, 111, 112, 121]) = true := by rw [hkl, hk]; decide
    have HV : Hid (R = (a == (ka : Int) && b == (kb : Int))) := by
      show R = _
      rw [HR.out]; unfold isEdgeB
      rw [if_pos hk, HN.out.2.2.2.2.2.1, HN.out.2.2.2.2.2.2]
    clear hk hkl
    by_cases h1 : a = (ka : Int)
    · have HVV : Hid (R = (b == (kb : Int))) := by show R = _; rw [HV.out]; simp [h1]
      go_wp2_with fail
      go_ret
      exact ⟨by rw [HVV.out]; rfl, HB1.out.2⟩
    · have HVV : Hid (R = false) := by show R = false; rw [HV.out]; simp [h1]
      go_wp2_with fail
      go_ret
      exact ⟨by rw [HVV.out]; rfl, HB1.out.2⟩
  · have g0 : (kd.toList == [99, 111, 112, 121]) = false := by rw [hkl, hk]; decide
    have g1 : (kd.toList == [108, 111, 97, 100]) = true := by rw [hkl, hk]; decide
    have HV : Hid (R = (b == (kb : Int) && decide (a < (n : Int)) && (setAt hs (ka : Int)).contains a)) := by
      show R = _
      rw [HR.out]; unfold isEdgeB
      rw [if_neg (by rw [hk]; decide), if_pos hk, HN.out.2.2.2.2.2.1, HN.out.2.2.2.2.2.2, HN.out.2.2.2.1]
    clear hk hkl
    obtain ⟨bb, oo, xa, xn, xc, rfl, e0, KC⟩ := KH.out w1 ka a hkan HB1.out.2
    by_cases h1 : b = (kb : Int)
    · by_cases h2 : a < (n : Int)
      · obtain ⟨D, hD⟩ : ∃ D, D = (setAt hs (ka : Int)).contains a := ⟨_, rfl⟩
        rw [← hD] at KC
        have HVV : Hid (R = D) := by show R = D; rw [HV.out, hD]; simp [h1, h2]
        have KC' : Hid _ := KC
        clear KC hD HV
        go_wp2_with fail
        refine Calls.mono KC'.out ?_
        rintro e w2 ⟨rfl, hw2⟩
        obtain rfl := hw2.symm
        clear hw2
        go_wp2_with fail
        go_ret
        exact ⟨by rw [HVV.out]; rfl, HB1.out.2⟩
      · have HVV : Hid (R = false) := by show R = false; rw [HV.out]; simp [h2]
        clear KC
        go_wp2_with fail
        go_ret
        exact ⟨by rw [HVV.out]; rfl, HB1.out.2⟩
    · have HVV : Hid (R = false) := by show R = false; rw [HV.out]; simp [h1]
      clear KC
      go_wp2_with fail
      go_ret
      exact ⟨by rw [HVV.out]; rfl, HB1.out.2⟩
  · have g0 : (kd.toList == [99, 111, 112, 121]) = false := by rw [hkl, hk]; decide
    have g1 : (kd.toList == [108, 111, 97, 100]) = false := by rw [hkl, hk]; decide
    have g2 : (kd.toList == [115, 116, 111, 114, 101]) = true := by rw [hkl, hk]; decide
    have HV : Hid (R = (a == (ka : Int) && decide (b < (n : Int)) && (setAt hs (kb : Int)).contains b)) := by
      show R = _
      rw [HR.out]; unfold isEdgeB
      rw [if_neg (by rw [hk]; decide), if_neg (by rw [hk]; decide), if_pos hk, HN.out.2.2.2.2.2.1, HN.out.2.2.2.2.2.2, HN.out.2.2.2.1]
    clear hk hkl
    obtain ⟨bb, oo, xa, xn, xc, rfl, e0, KC⟩ := KH.out w1 kb b hkbn HB1.out.2
    by_cases h1 : a = (ka : Int)
    · by_cases h2 : b < (n : Int)
      · obtain ⟨D, hD⟩ : ∃ D, D = (setAt hs (kb : Int)).contains b := ⟨_, rfl⟩
        rw [← hD] at KC
        have HVV : Hid (R = D) := by show R = D; rw [HV.out, hD]; simp [h1, h2]
        have KC' : Hid _ := KC
        clear KC hD HV
        go_wp2_with fail
        refine Calls.mono KC'.out ?_
        rintro e w2 ⟨rfl, hw2⟩
        obtain rfl := hw2.symm
        clear hw2
        go_wp2_with fail
        go_ret
        exact ⟨by rw [HVV.out]; rfl, HB1.out.2⟩
      · have HVV : Hid (R = false) := by show R = false; rw [HV.out]; simp [h2]
        clear KC
        go_wp2_with fail
        go_ret
        exact ⟨by rw [HVV.out]; rfl, HB1.out.2⟩
    · have HVV : Hid (R = false) := by show R = false; rw [HV.out]; simp [h1]
      clear KC
      go_wp2_with fail
      go_ret
      exact ⟨by rw [HVV.out]; rfl, HB1.out.2⟩
  · have g0 : (kd.toList == [99, 111, 112, 121]) = false := by rw [hkl, hk]; decide
    have g1 : (kd.toList == [108, 111, 97, 100]) = false := by rw [hkl, hk]; decide
    have g2 : (kd.toList == [115, 116, 111, 114, 101]) = false := by rw [hkl, hk]; decide
    have g3 : (kd.toList == [99, 97, 108, 108]) = true := by rw [hkl, hk]; decide
    have HV : Hid (R = (List.range n2).any (callOne hs r P.funs a b)) := by
      show R = _
      rw [HR.out, HN.out.2.1]; unfold isEdgeB
      rw [if_neg (by rw [hk]; decide), if_neg (by rw [hk]; decide), if_neg (by rw [hk]; decide), if_pos hk]
      rfl
    clear hk hkl
    have HF : Hid (∀ f, f < n2 → ∃ g o pa pc, a2 = some ⟨g, o, none⟩ ∧ w1.cell? ⟨g, o + f * 3 + 1, none⟩ = some (.slice pa (P.funs.getD f default).params.length pc) ∧ IsInts w1 (.slice pa (P.funs.getD f default).params.length pc) (P.funs.getD f default).params ∧ w1.cell? ⟨g, o + f * 3 + 2, none⟩ = some (.int .i64 (P.funs.getD f default).ret)) := fun f hf => by
      obtain ⟨a', c', e', _, q⟩ := (H.out.1.below HB1.out.2).funs
      injection e' with e1 e2 e3
      obtain ⟨g, o, r1, pv, r2, r3, r4, r5⟩ := q f (by rw [← HN.out.2.1]; exact hf)
      have hi := r4.1
      obtain ⟨pa, pc, rfl⟩ := isInts_form hi
      exact ⟨g, o, pa, pc, by rw [e1, r1], r3, hi, r5⟩
    have HA1 : Hid (IsInts w1 (.slice aa na ac) r.args) := H.out.2.2.1.below HB1.out.2
    go_wp2_with fail
    go_loopw [12] (fun t12 wr => ∃ f : Nat, f ≤ n2 ∧ t12 = .int .i64 f ∧ (List.range f).any (callOne hs r P.funs a b) = false ∧ wr = w1) (fun t12 _ => (n2 - intOf t12).toNat)
    case atStart => exact ⟨0, Nat.zero_le _, rfl, rfl, rfl⟩
    case round =>
      obtain ⟨f, hf, rfl, hany, hwr⟩ := hrel
      obtain rfl := hwr.symm
      clear hwr
      have HNY : Hid ((List.range f).any (callOne hs r P.funs a b) = false) := hany
      clear hany
      by_cases hlt : f < n2
      · obtain ⟨g, o, pa, pc, rfl, f1, f2, f3⟩ := HF.out f hlt
        obtain ⟨fd, hfd⟩ : ∃ z, z = P.funs.getD f default := ⟨_, rfl⟩
        rw [← hfd] at f1 f2 f3
        have hfi : (f : Int) < n2 := by omega
        have hwrap : IntKind.i64.wrap ((n : Int) + (f : Int)) = (n : Int) + f := by rw [IntKind.wrap_i64]; omega
        obtain ⟨bb, oo, xa, xn, xc, rfl, e0, KC⟩ := KH.out w1 ka ((n : Int) + f) hkan HB1.out.2
        obtain ⟨D, hD⟩ : ∃ D, D = (setAt hs (ka : Int)).contains ((n : Int) + f) := ⟨_, rfl⟩
        rw [← hD] at KC
        obtain ⟨np, hnp⟩ : ∃ z, z = fd.params.length := ⟨_, rfl⟩
        obtain ⟨rt, hrt⟩ : ∃ z, z = fd.ret := ⟨_, rfl⟩
        rw [← hnp] at f1 f2
        rw [← hrt] at f3
        have hnp6 : np ≤ 1000000 := by
          rw [hnp, hfd]
          have := HS3.out _ (getDmC (by rw [← HN.out.2.1]; exact hlt))
          omega
        have HC1 : Hid (callOne hs r P.funs a b f = (D && decide (np = na) && callB r fd a b)) := by
          show _ = _
          unfold callOne
          rw [HN.out.2.2.2.2.2.1, ← HN.out.2.2.2.1, ← hfd, ← hnp, ← HN.out.2.2.2.2.1, ← hD]
        have HFD : Hid (np = fd.params.length ∧ rt = fd.ret ∧ IsInts w1 (.slice pa np pc) fd.params) := ⟨hnp, hrt, f2⟩
        have KC' : Hid _ := KC
        clear KC hD hnp hrt hfd f2
        go_wp2_with fail
        refine Calls.mono KC'.out ?_
        rintro e w2 ⟨rfl, hw2⟩
        obtain rfl := hw2.symm
        clear hw2 KC'
        cases D with
        | false =>
          have HS1 : Hid ((List.range (f + 1)).any (callOne hs r P.funs a b) = false) := any_range_step _ f HNY.out (by rw [HC1.out]; rfl)
          go_wp2_with fail
          go_roundw
          case rel => exact ⟨f + 1, hlt, by go_num, HS1.out, trivial⟩
          case measure => simp [intOf]; omega
        | true =>
          by_cases hl : np = na
          · subst hl
            by_cases q : a = rt ∧ b = (kb : Int)
            · obtain ⟨h1, h2⟩ := q
              have HVV : Hid (R = true) := by
                show R = true
                rw [HV.out]
                refine any_range_at _ f n2 hlt ?_
                rw [HC1.out]
                unfold callB
                rw [← HFD.out.2.1, HN.out.2.2.2.2.2.2]
                simp [h1, h2]
              subst h1 h2
              go_wp2_with fail
              go_ret
              exact ⟨by rw [HVV.out]; rfl, HB1.out.2⟩
            · have HNQ : Hid (¬ (a = rt ∧ b = (kb : Int))) := q
              have hq : ((a == rt) = true ∧ (b == (kb : Int)) = false) ∨ (a == rt) = false := by
                by_cases h1 : a = rt
                · exact Or.inl ⟨by simp [h1], by simp; exact fun h2 => q ⟨h1, h2⟩⟩
                · exact Or.inr (by simp [h1])
              clear q
              rcases hq with ⟨h1, h2⟩ | h1
              all_goals
                go_wp2_with fail
                go_loopw [14] (fun t14 wr => ∃ i : Nat, i ≤ np ∧ t14 = .int .i64 i ∧ (List.range i).any (fun i => a == r.args.getD i 0 && b == fd.params.getD i 0) = false ∧ wr = w1) (fun t14 _ => (np - intOf t14).toNat)
                case atStart => exact ⟨0, Nat.zero_le _, rfl, rfl, rfl⟩
                case round =>
                  obtain ⟨i, hi, rfl, hany, hwr⟩ := hrel
                  obtain rfl := hwr.symm
                  clear hwr
                  have HNI : Hid ((List.range i).any (fun i => a == r.args.getD i 0 && b == fd.params.getD i 0) = false) := hany
                  clear hany
                  by_cases hlt2 : i < np
                  · have hii : (i : Int) < np := by omega
                    obtain ⟨b1, o1, rfl, d0⟩ := ints_at HA1.out HN.out.2.2.2.2.1 i hlt2
                    obtain ⟨b2, o2, rfl, d1⟩ := ints_at HFD.out.2.2 HFD.out.1 i hlt2
                    obtain ⟨za, hza⟩ : ∃ z, z = r.args.getD i 0 := ⟨_, rfl⟩
                    obtain ⟨zb, hzb⟩ : ∃ z, z = fd.params.getD i 0 := ⟨_, rfl⟩
                    rw [← hza] at d0
                    rw [← hzb] at d1
                    have HZ : Hid (za = r.args.getD i 0 ∧ zb = fd.params.getD i 0) := ⟨hza, hzb⟩
                    clear hza hzb
                    by_cases t1 : a = za
                    · by_cases t2 : b = zb
                      · have HVV : Hid (R = true) := by
                          show R = true
                          rw [HV.out]
                          refine any_range_at _ f n2 hlt ?_
                          rw [HC1.out]
                          unfold callB
                          rw [any_range_at _ i fd.params.length (by rw [← HFD.out.1]; exact hlt2) (by rw [← HZ.out.1, ← HZ.out.2]; simp [t1, t2])]
                          simp
                        have e1 : (a == za) = true := by simp [t1]
                        have e2 : (b == zb) = true := by simp [t2]
                        clear t1 t2
                        go_wp2_with fail
                        go_ret
                        exact ⟨by rw [HVV.out]; rfl, HB1.out.2⟩
                      · have HS2 : Hid ((List.range (i + 1)).any (fun i => a == r.args.getD i 0 && b == fd.params.getD i 0) = false) := any_range_step _ i HNI.out (by rw [← HZ.out.1, ← HZ.out.2]; simp [t2])
                        have e1 : (a == za) = true := by simp [t1]
                        have e2 : (b == zb) = false := by simp [t2]
                        clear t1 t2
                        go_wp2_with fail
                        go_roundw
                        case rel => exact ⟨i + 1, hlt2, by go_num, HS2.out, trivial⟩
                        case measure => simp [intOf]; omega
                    · have HS2 : Hid ((List.range (i + 1)).any (fun i => a == r.args.getD i 0 && b == fd.params.getD i 0) = false) := any_range_step _ i HNI.out (by rw [← HZ.out.1, ← HZ.out.2]; simp [t1])
                      have e1 : (a == za) = false := by simp [t1]
                      clear t1
                      go_wp2_with fail
                      go_roundw
                      case rel => exact ⟨i + 1, hlt2, by go_num, HS2.out, trivial⟩
                      case measure => simp [intOf]; omega
                  · have HS1 : Hid ((List.range (f + 1)).any (callOne hs r P.funs a b) = false) := any_range_step _ f HNY.out (by
                      rw [HC1.out]
                      unfold callB
                      have hin : i = fd.params.length := by rw [← HFD.out.1]; omega
                      have := HNI.out
                      rw [hin] at this
                      rw [this, ← HFD.out.2.1, HN.out.2.2.2.2.2.2]
                      have hnq := HNQ.out
                      by_cases u1 : a = rt
                      · have u2 : ¬ b = (kb : Int) := fun u2 => hnq ⟨u1, u2⟩
                        simp [u2]
                      · simp [u1])
                    go_wp2_with fail
                    go_roundw
                    case rel => exact ⟨f + 1, hlt, by go_num, HS1.out, trivial⟩
                    case measure => simp [intOf]; omega
          · have HS1 : Hid ((List.range (f + 1)).any (callOne hs r P.funs a b) = false) := any_range_step _ f HNY.out (by rw [HC1.out, decide_eq_false hl]; simp)
            have hne : ¬ ((np : Int) = (na : Int)) := by omega
            go_wp2_with fail
            go_roundw
            case rel => exact ⟨f + 1, hlt, by go_num, HS1.out, trivial⟩
            case measure => simp [intOf]; omega
      · have HVV : Hid (R = false) := by
          show R = false
          rw [HV.out]
          have := HNY.out
          rw [show f = n2 by omega] at this
          exact this
        go_wp2_with fail
        go_ret
        exact ⟨by rw [HVV.out]; rfl, HB1.out.2⟩
end Go.Proofs.YtglonlpfnllocaaGreatDoor

/-
  The document's RuleOf, by a contract.
-/
namespace Go.Proofs.YtglonlpfnllocaaGreatDoor
open Go.RowKit Go.Extern.Stop Go.Stop Go.Extern

abbrev TRf : TypeId := 124
abbrev zRule : Obj := .cells #[.string ⟨#[]⟩, .int .i64 0, .int .i64 0, .int .i64 0, .slice none 0 0] TRf
abbrev refBox (kd : ByteArray) (a b st : Int) (av : Value) : Obj := .cells #[.string kd, .int .i64 a, .int .i64 b, .int .i64 st, av] TRf
/-- Five cells are stored. -/
abbrev setRG (w : World) (g : Nat) (kd : ByteArray) (a b st : Int) (av : Value) : World := ((((w.setCell ⟨g, 0, none⟩ (.string kd)).setCell ⟨g, 1, none⟩ (.int .i64 a)).setCell ⟨g, 2, none⟩ (.int .i64 b)).setCell ⟨g, 3, none⟩ (.int .i64 st)).setCell ⟨g, 4, none⟩ av
theorem set_otherG (w : World) (g k : Nat) (x : Value) (b : Nat) (h : g ≠ b) : (w.setCell ⟨g, k, none⟩ x).heap[b]? = w.heap[b]? := by
  simp only [World.setCell, Array.getElem?_modify]
  rw [if_neg h]
theorem setRG_other {w : World} {g b : Nat} {kd : ByteArray} {a b' st : Int} {av : Value} {o : Obj} (h : w.heap[b]? = some o) (hne : g ≠ b) : (setRG w g kd a b' st av).heap[b]? = some o := by
  unfold setRG
  rw [set_otherG _ _ _ _ _ hne, set_otherG _ _ _ _ _ hne, set_otherG _ _ _ _ _ hne, set_otherG _ _ _ _ _ hne, set_otherG _ _ _ _ _ hne]
  exact h
theorem setRG_same {w : World} {g : Nat} {kd0 : ByteArray} {a0 b0 st0 : Int} {av0 : Value} (kd : ByteArray) (a b st : Int) (av : Value) (h : w.heap[g]? = some (.cells #[.string kd0, .int .i64 a0, .int .i64 b0, .int .i64 st0, av0] TRf (0, 0))) : (setRG w g kd a b st av).heap[g]? = some (.cells #[.string kd, .int .i64 a, .int .i64 b, .int .i64 st, av] TRf (0, 0)) := by
  have h1 := set_block w g 0 _ _ _ h (.string kd)
  have h2 := set_block _ g 1 _ _ _ h1 (.int .i64 a)
  have h3 := set_block _ g 2 _ _ _ h2 (.int .i64 b)
  have h4 := set_block _ g 3 _ _ _ h3 (.int .i64 st)
  have h5 := set_block _ g 4 _ _ _ h4 av
  exact h5
theorem setRG_cell {w : World} {g b j : Nat} {kd : ByteArray} {a b' st : Int} {av v : Value} (h : w.cell? ⟨b, j, none⟩ = some v) (hne : b ≠ g) : (setRG w g kd a b' st av).cell? ⟨b, j, none⟩ = some v := by
  unfold setRG
  exact other_cell (other_cell (other_cell (other_cell (other_cell h hne) hne) hne) hne) hne
theorem setR_below {B : Nat} {w0 w : World} {g : Nat} {kd : ByteArray} {a b st : Int} {av : Value} (h : Below B w0 w) (hg : B ≤ g) : Below B w0 (setRG w g kd a b st av) := ((((h.setCell hg _).setCell hg _).setCell hg _).setCell hg _).setCell hg _
theorem ruleCells {w : World} {g : Nat} {kd : ByteArray} {a b st : Int} {av : Value} (h : w.heap[g]? = some (.cells #[.string kd, .int .i64 a, .int .i64 b, .int .i64 st, av] TRf (0, 0))) :
    (w.cell? ⟨g, 0, none⟩ = some (.string kd) ∧ w.cell? ⟨g, 1, none⟩ = some (.int .i64 a) ∧ w.cell? ⟨g, 2, none⟩ = some (.int .i64 b) ∧ w.cell? ⟨g, 3, none⟩ = some (.int .i64 st) ∧ w.cell? ⟨g, 4, none⟩ = some av) ∧ (w.frozen? ⟨g, 0, none⟩ = false ∧ w.frozen? ⟨g, 1, none⟩ = false ∧ w.frozen? ⟨g, 2, none⟩ = false ∧ w.frozen? ⟨g, 3, none⟩ = false ∧ w.frozen? ⟨g, 4, none⟩ = false) := by
  refine ⟨⟨?_, ?_, ?_, ?_, ?_⟩, Lib.frozen_of_heap h 0, Lib.frozen_of_heap h 1, Lib.frozen_of_heap h 2, Lib.frozen_of_heap h 3, Lib.frozen_of_heap h 4⟩ <;> (rw [Lib.cell_of_heap h]; rfl)
/-- What RuleOf tells. -/
def RulePost (P : ProgD) (k : Nat) (w0 w w' : World) (e : Ending) : Prop := ∃ av, e = .returned (.agg #[.string (S (ruleD P k).kind), .int .i64 (ruleD P k).a, .int .i64 (ruleD P k).b, .int .i64 (ruleD P k).stmt, av]) ∧ IsInts w0 av (ruleD P k).args ∧ Below w.heap.size w w'
set_option maxRecDepth 100000 in
set_option maxHeartbeats 8000000 in
theorem refRule_any (P : ProgD) (k : Nat) (v1 v2 v3 : Value) (w0 w : World) (hS : SmallP P) (hc : checkE P = none) (h : IsProg w0 v1 v2 v3 P) (hb0 : Below w0.heap.size w0 w) (hk : k < P.stmts.length) :
    Calls Tryz.prog 84 #[.agg #[v1, v2, v3], .int .i64 (k : Int)] w fun e w' => RulePost P k w0 w w' e := by
  have H : Hid (IsProg w v1 v2 v3 P) := h.below hb0
  obtain ⟨⟨a1, c1, rfl, -, -⟩, ⟨a2, c2, rfl, -, -⟩, ⟨a3, c3, rfl, -, hst⟩⟩ := h
  obtain ⟨g, o, rfl, av, e0, e1, e2, e3, hav⟩ := hst k hk
  obtain ⟨hi, aa, ac, rfl, -⟩ := hav
  replace e0 := cell_keep hb0 e0
  replace e1 := cell_keep hb0 e1
  replace e2 := cell_keep hb0 e2
  replace e3 := cell_keep hb0 e3
  clear hb0
  obtain ⟨st, hste⟩ : ∃ z, z = P.stmts.getD k default := ⟨_, rfl⟩
  rw [← hste] at e0 e1 e2 e3 hi
  obtain ⟨n1, hn1⟩ : ∃ m, m = P.vars.length := ⟨_, rfl⟩
  obtain ⟨n2, hn2⟩ : ∃ m, m = P.funs.length := ⟨_, rfl⟩
  obtain ⟨n3, hn3⟩ : ∃ m, m = P.stmts.length := ⟨_, rfl⟩
  obtain ⟨na, hna⟩ : ∃ m, m = st.args.length := ⟨_, rfl⟩
  obtain ⟨kd, hkd⟩ : ∃ kd, kd = S st.kind := ⟨_, rfl⟩
  obtain ⟨x, hx⟩ : ∃ z, z = st.x := ⟨_, rfl⟩
  obtain ⟨y, hy⟩ : ∃ z, z = st.y := ⟨_, rfl⟩
  have hkl : kd.toList = st.kind := by rw [hkd, S_toList]
  have HST : Hid (st = P.stmts.getD k default ∧ kd = S st.kind ∧ x = st.x ∧ y = st.y ∧ na = st.args.length) := ⟨hste, hkd, hx, hy, hna⟩
  have hk3 : (k : Int) < n3 := by omega
  have HB3 : Hid (places P P.stmts.length ≤ 200 ∧ k ≤ 80 ∧ (st.kind = kFun → 0 ≤ y ∧ y < 8) ∧ 0 ≤ k) := by
    obtain ⟨s1, s2, s3⟩ := right_small hc
    have hpl := places_le P P.stmts.length
    refine ⟨by omega, by omega, fun q => ?_, Nat.zero_le _⟩
    obtain ⟨-, -, k3, -⟩ := stmt_parts ((right_of hc).st _ (getDmC hk))
    unfold yB at k3
    rw [← hste, q] at k3
    simp at k3
    have := funB_parts k3
    omega
  rw [← hn1, ← hn2, ← hn3] at H ⊢
  rw [← hkd] at e0
  rw [← hx] at e1
  rw [← hy] at e2
  rw [← hna] at e3 hi
  have HI : Hid (IsInts w0 (.slice aa na ac) st.args) := hi
  have KN : Hid (∀ wx, Below w.heap.size w wx → Calls Tryz.prog 49 #[.agg #[.slice a1 n1 c1, .slice a2 n2 c2, .slice (some ⟨g, o, none⟩) n3 c3]] wx fun e w' => e = .returned (.int .i64 ((places P P.stmts.length : Nat) : Int)) ∧ Below wx.heap.size wx w') := fun wx hb => refNodes_any P _ _ _ wx hS (H.out.below hb)
  have KP : Hid (st.kind = kNew → ∀ wx, Below w.heap.size w wx → Calls Tryz.prog 113 #[.agg #[.slice a1 n1 c1, .slice a2 n2 c2, .slice (some ⟨g, o, none⟩) n3 c3], .int .i64 (k : Int)] wx fun e w' => e = .returned (.int .i64 ((places P k : Nat) : Int)) ∧ Below wx.heap.size wx w') := fun q wx hb => by
    have := refPlace_any P (k : Int) _ _ _ wx hS (H.out.below hb) hc
    rw [placeD_in (by rw [hc]; rfl) ⟨Int.natCast_nonneg _, by omega, by rw [Int.toNat_natCast, ← hste]; exact q⟩, Int.toNat_natCast] at this
    exact this
  obtain ⟨W1, hW1⟩ : ∃ W, W = (w.alloc (.cells #[.slice a1 n1 c1, .slice a2 n2 c2, .slice (some ⟨g, o, none⟩) n3 c3] 26)).alloc zRule := ⟨_, rfl⟩
  have hB1 : Below w.heap.size w W1 := by rw [hW1]; exact (below1 w _).alloc (by simp) _
  have HX : Hid (W1.heap[w.heap.size]? = some (.cells #[.slice a1 n1 c1, .slice a2 n2 c2, .slice (some ⟨g, o, none⟩) n3 c3] 26 (0, 0)) ∧ W1.heap[w.heap.size + 1]? = some (.cells #[.string ⟨#[]⟩, .int .i64 0, .int .i64 0, .int .i64 0, .slice none 0 0] TRf (0, 0)) ∧ Below w.heap.size w W1) := by
    refine ⟨?_, ?_, hB1⟩
    · rw [hW1]; exact block_keep (below1 _ _) (heap_new w _)
    · rw [hW1]
      have := heap_new (w.alloc (.cells #[.slice a1 n1 c1, .slice a2 n2 c2, .slice (some ⟨g, o, none⟩) n3 c3] 26)) zRule
      simpa using this
  have p2 : W1.cell? ⟨w.heap.size, 2, none⟩ = some (.slice (some ⟨g, o, none⟩) n3 c3) := by rw [Lib.cell_of_heap HX.out.1]; rfl
  replace e0 := cell_keep hB1 e0
  replace e1 := cell_keep hB1 e1
  replace e2 := cell_keep hB1 e2
  replace e3 := cell_keep hB1 e3
  obtain ⟨W3, hW3⟩ : ∃ W, W = (W1.alloc (.cells #[.string kd, .int .i64 x, .int .i64 y, .slice aa na ac] 45)).alloc (refBox kd y x k (.slice aa na ac)) := ⟨_, rfl⟩
  have hB3 : Below W1.heap.size W1 W3 := by rw [hW3]; exact (below1 W1 _).alloc (by simp) _
  have hsz := HX.out.2.2.size
  have hlt1 : w.heap.size + 1 < W1.heap.size := (Array.getElem?_eq_some_iff.1 HX.out.2.1).1
  obtain ⟨s, hse⟩ : ∃ s, s = W1.heap.size := ⟨_, rfl⟩
  have HH : Hid (W3.heap[w.heap.size]? = some (.cells #[.slice a1 n1 c1, .slice a2 n2 c2, .slice (some ⟨g, o, none⟩) n3 c3] 26 (0, 0)) ∧ W3.heap[w.heap.size + 1]? = some (.cells #[.string ⟨#[]⟩, .int .i64 0, .int .i64 0, .int .i64 0, .slice none 0 0] TRf (0, 0)) ∧ W3.heap[s]? = some (.cells #[.string kd, .int .i64 x, .int .i64 y, .slice aa na ac] 45 (0, 0)) ∧ W3.heap[s + 1]? = some (.cells #[.string kd, .int .i64 y, .int .i64 x, .int .i64 k, .slice aa na ac] TRf (0, 0)) ∧ Below w.heap.size w W3 ∧ w.heap.size + 1 < s) := by
    refine ⟨block_keep hB3 HX.out.1, block_keep hB3 HX.out.2.1, ?_, ?_, HX.out.2.2.trans (hB3.mono hsz), by omega⟩
    · rw [hW3, hse]; exact block_keep (below1 _ _) (heap_new W1 _)
    · rw [hW3, hse]
      have := heap_new (W1.alloc (.cells #[.string kd, .int .i64 x, .int .i64 y, .slice aa na ac] 45)) (refBox kd y x k (.slice aa na ac))
      simpa using this
  have HRD : Hid (∀ r, r = ruleD P k → r = ruleD P k) := fun _ h => h
  have m0 : W3.cell? ⟨s, 0, none⟩ = some (.string kd) := by rw [Lib.cell_of_heap HH.out.2.2.1]; rfl
  have m1 : W3.cell? ⟨s, 1, none⟩ = some (.int .i64 x) := by rw [Lib.cell_of_heap HH.out.2.2.1]; rfl
  have m2 : W3.cell? ⟨s, 2, none⟩ = some (.int .i64 y) := by rw [Lib.cell_of_heap HH.out.2.2.1]; rfl
  obtain ⟨⟨t0, t1, t2, t3, t4⟩, tf0, tf1, tf2, tf3, tf4⟩ := ruleCells HH.out.2.2.2.1
  clear hst hste hn1 hn2 hn3 hna hkd hx hy hi hk hS hc
  go_enter Tryz.func84, Tryz.ntmps84
  go_upto_region 1 with fail
  rw [← hW1]
  clear hW1
  go_upto_region 3 with fail
  rw [← hW3]
  rw [← hse]
  clear hW3 hse hB3 hsz hlt1 e0 e1 e2 e3 p2 HX hB1
  by_cases q1 : st.kind = kAddr
  · have g0 : (kd.toList == [97, 100, 100, 114]) = true := by rw [hkl, q1]; decide
    have HRu : Hid (ruleD P k = ⟨kBase, x, y, k, []⟩) := by
      show _ = _
      unfold ruleD
      rw [← HST.out.1, if_pos q1, HST.out.2.2.1, HST.out.2.2.2.1]
    clear q1 hkl
    go_upto_region 10 with fail
    obtain ⟨V, hV⟩ : ∃ V, V = setRG W3 (s + 1) ⟨#[98, 97, 115, 101]⟩ x y (k : Int) (.slice none 0 0) := ⟨_, rfl⟩
    have HV : Hid (V.heap[s + 1]? = some (.cells #[.string ⟨#[98, 97, 115, 101]⟩, .int .i64 x, .int .i64 y, .int .i64 k, .slice none 0 0] TRf (0, 0)) ∧ V.heap[w.heap.size + 1]? = some (.cells #[.string ⟨#[]⟩, .int .i64 0, .int .i64 0, .int .i64 0, .slice none 0 0] TRf (0, 0)) ∧ Below w.heap.size w V) := by
      rw [hV]
      have := HH.out.2.2.2.2.2
      exact ⟨setRG_same _ _ _ _ _ HH.out.2.2.2.1, setRG_other HH.out.2.1 (by omega), setR_below HH.out.2.2.2.2.1 (by omega)⟩
    clear t0 t1 t2 t3 t4 tf0 tf1 tf2 tf3 tf4
    unfold setRG at hV
    rw [← hV]
    clear hV
    obtain ⟨⟨t0, t1, t2, t3, t4⟩, -⟩ := ruleCells HV.out.1
    obtain ⟨⟨r0, r1, r2, r3, r4⟩, f0, f1, f2, f3, f4⟩ := ruleCells HV.out.2.1
    have HF : Hid (Below w.heap.size w (setRG V (w.heap.size + 1) ⟨#[98, 97, 115, 101]⟩ x y (k : Int) (.slice none 0 0))) := setR_below HV.out.2.2 (Nat.le_succ _)
    go_wp2_with fail
    refine bodyPost_ret (v := .agg #[.string ⟨#[98, 97, 115, 101]⟩, .int .i64 x, .int .i64 y, .int .i64 (k : Int), (.slice none 0 0)]) (by simp [results, Tryz.results84, go_sem, r0, r1, r2, r3, r4]) rfl ?_
    exact ⟨.slice none 0 0, by (rw [HRu.out]; try rfl), by rw [HRu.out]; exact IsInts.nil _ _ _, HF.out⟩
  by_cases q2 : st.kind = kNew
  · have g0 : (kd.toList == [97, 100, 100, 114]) = false := by rw [hkl, q2]; decide
    have g1 : (kd.toList == [110, 101, 119]) = true := by rw [hkl, q2]; decide
    obtain ⟨M, hM⟩ : ∃ M, M = places P k := ⟨_, rfl⟩
    have HRu : Hid (ruleD P k = ⟨kBase, x, M, k, []⟩) := by
      show _ = _
      unfold ruleD
      rw [← HST.out.1, if_neg q1, if_pos q2, HST.out.2.2.1, hM]
    have KPx : Hid (∀ wx, Below w.heap.size w wx → Calls Tryz.prog 113 #[.agg #[.slice a1 n1 c1, .slice a2 n2 c2, .slice (some ⟨g, o, none⟩) n3 c3], .int .i64 (k : Int)] wx fun e w' => e = .returned (.int .i64 (M : Int)) ∧ Below wx.heap.size wx w') := by
      rw [hM]; exact KP.out q2
    clear q1 q2 hkl hM KN KP
    have n1' : w.heap.size ≠ s + 1 := by have := HH.out.2.2.2.2.2; omega
    have n2' : s ≠ s + 1 := by omega
    obtain ⟨p0, p1, p2⟩ : Box3 W3 w.heap.size (.slice a1 n1 c1) (.slice a2 n2 c2) (.slice (some ⟨g, o, none⟩) n3 c3) := ⟨by rw [Lib.cell_of_heap HH.out.1]; rfl, by rw [Lib.cell_of_heap HH.out.1]; rfl, by rw [Lib.cell_of_heap HH.out.1]; rfl⟩
    have HW3 : Hid (Below w.heap.size w W3.drew) := HH.out.2.2.2.2.1.drew
    clear t0 t1 t2 t3 t4 tf0 tf1 tf2 tf3 tf4
    go_upto_region 7 with fail
    go_region_held3 (fun wx => Below w.heap.size w wx ∧ wx.cell? ⟨w.heap.size, 0, none⟩ = some (.slice a1 n1 c1) ∧ wx.cell? ⟨w.heap.size, 1, none⟩ = some (.slice a2 n2 c2) ∧ wx.cell? ⟨w.heap.size, 2, none⟩ = some (.slice (some ⟨g, o, none⟩) n3 c3) ∧ wx.cell? ⟨s, 1, none⟩ = some (.int .i64 x) ∧ wx.cell? ⟨s, 2, none⟩ = some (.int .i64 y))
      ((go_split_ands; first | exact ⟨HW3.out, p0, p1, p2, m1, m2⟩ | exact ⟨HW3.out.trans (hb8.mono HW3.out.size), cell_keep hb8 p0, cell_keep hb8 p1, cell_keep hb8 p2, cell_keep hb8 m1, cell_keep hb8 m2⟩ | exact ⟨setR_below (HW3.out.trans (hb8.mono HW3.out.size)) (by have := HH.out.2.2.2.2.2; omega), setRG_cell (cell_keep hb8 p0) n1', setRG_cell (cell_keep hb8 p1) n1', setRG_cell (cell_keep hb8 p2) n1', setRG_cell (cell_keep hb8 m1) n2', setRG_cell (cell_keep hb8 m2) n2'⟩))
      ((go_at_call 113; refine (KPx.out _ ?_).mono ?_; (go_split_ands; assumption); rintro e w8 ⟨rfl, hb8⟩; obtain ⟨⟨t0, t1, t2, t3, t4⟩, tf0, tf1, tf2, tf3, tf4⟩ := ruleCells (block_keep hb8 HH.out.2.2.2.1)))
    obtain ⟨V, hV⟩ : ∃ V, V = setRG w8 (s + 1) ⟨#[98, 97, 115, 101]⟩ x (M : Int) (k : Int) (.slice none 0 0) := ⟨_, rfl⟩
    have HV : Hid (V.heap[s + 1]? = some (.cells #[.string ⟨#[98, 97, 115, 101]⟩, .int .i64 x, .int .i64 (M : Int), .int .i64 k, .slice none 0 0] TRf (0, 0)) ∧ V.heap[w.heap.size + 1]? = some (.cells #[.string ⟨#[]⟩, .int .i64 0, .int .i64 0, .int .i64 0, .slice none 0 0] TRf (0, 0)) ∧ Below w.heap.size w V) := by
      rw [hV]
      have := HH.out.2.2.2.2.2
      exact ⟨setRG_same _ _ _ _ _ (block_keep hb8 HH.out.2.2.2.1), setRG_other (block_keep hb8 HH.out.2.1) (by omega), setR_below (HW3.out.trans (hb8.mono HW3.out.size)) (by omega)⟩
    clear t0 t1 t2 t3 t4 tf0 tf1 tf2 tf3 tf4 p0 p1 p2 m0 m1 m2
    unfold setRG at hV
    rw [← hV]
    clear hV
    obtain ⟨⟨t0, t1, t2, t3, t4⟩, -⟩ := ruleCells HV.out.1
    obtain ⟨⟨r0, r1, r2, r3, r4⟩, f0, f1, f2, f3, f4⟩ := ruleCells HV.out.2.1
    have HF : Hid (Below w.heap.size w (setRG V (w.heap.size + 1) ⟨#[98, 97, 115, 101]⟩ x (M : Int) (k : Int) (.slice none 0 0))) := setR_below HV.out.2.2 (Nat.le_succ _)
    go_wp2_with fail
    refine bodyPost_ret (v := .agg #[.string ⟨#[98, 97, 115, 101]⟩, .int .i64 x, .int .i64 (M : Int), .int .i64 (k : Int), (.slice none 0 0)]) (by simp [results, Tryz.results84, go_sem, r0, r1, r2, r3, r4]) rfl ?_
    exact ⟨.slice none 0 0, by (rw [HRu.out]; try rfl), by rw [HRu.out]; exact IsInts.nil _ _ _, HF.out⟩
  by_cases q3 : st.kind = kFun
  · have g0 : (kd.toList == [97, 100, 100, 114]) = false := by rw [hkl, q3]; decide
    have g1 : (kd.toList == [110, 101, 119]) = false := by rw [hkl, q3]; decide
    have g2 : (kd.toList == [102, 117, 110]) = true := by rw [hkl, q3]; decide
    have hyb := HB3.out.2.2.1 q3
    obtain ⟨M, hM⟩ : ∃ M, M = places P P.stmts.length := ⟨_, rfl⟩
    have hMl : M ≤ 200 := by rw [hM]; exact HB3.out.1
    have hwrp : IntKind.i64.wrap ((M : Int) + y) = (M : Int) + y := by rw [IntKind.wrap_i64]; omega
    have HRu : Hid (ruleD P k = ⟨kBase, x, (M : Int) + y, k, []⟩) := by
      show _ = _
      unfold ruleD
      rw [← HST.out.1, if_neg q1, if_neg q2, if_pos q3, HST.out.2.2.1, HST.out.2.2.2.1, hM]
    have KPx : Hid (∀ wx, Below w.heap.size w wx → Calls Tryz.prog 49 #[.agg #[.slice a1 n1 c1, .slice a2 n2 c2, .slice (some ⟨g, o, none⟩) n3 c3]] wx fun e w' => e = .returned (.int .i64 (M : Int)) ∧ Below wx.heap.size wx w') := by
      rw [hM]; exact KN.out
    clear q1 q2 q3 hkl hM KN KP hyb hMl
    have n1' : w.heap.size ≠ s + 1 := by have := HH.out.2.2.2.2.2; omega
    have n2' : s ≠ s + 1 := by omega
    obtain ⟨p0, p1, p2⟩ : Box3 W3 w.heap.size (.slice a1 n1 c1) (.slice a2 n2 c2) (.slice (some ⟨g, o, none⟩) n3 c3) := ⟨by rw [Lib.cell_of_heap HH.out.1]; rfl, by rw [Lib.cell_of_heap HH.out.1]; rfl, by rw [Lib.cell_of_heap HH.out.1]; rfl⟩
    have HW3 : Hid (Below w.heap.size w W3.drew) := HH.out.2.2.2.2.1.drew
    clear t0 t1 t2 t3 t4 tf0 tf1 tf2 tf3 tf4
    go_upto_region 9 with fail
    go_region_held3 (fun wx => Below w.heap.size w wx ∧ wx.cell? ⟨w.heap.size, 0, none⟩ = some (.slice a1 n1 c1) ∧ wx.cell? ⟨w.heap.size, 1, none⟩ = some (.slice a2 n2 c2) ∧ wx.cell? ⟨w.heap.size, 2, none⟩ = some (.slice (some ⟨g, o, none⟩) n3 c3) ∧ wx.cell? ⟨s, 1, none⟩ = some (.int .i64 x) ∧ wx.cell? ⟨s, 2, none⟩ = some (.int .i64 y))
      ((go_split_ands; first | exact ⟨HW3.out, p0, p1, p2, m1, m2⟩ | exact ⟨HW3.out.trans (hb8.mono HW3.out.size), cell_keep hb8 p0, cell_keep hb8 p1, cell_keep hb8 p2, cell_keep hb8 m1, cell_keep hb8 m2⟩ | exact ⟨setR_below (HW3.out.trans (hb8.mono HW3.out.size)) (by have := HH.out.2.2.2.2.2; omega), setRG_cell (cell_keep hb8 p0) n1', setRG_cell (cell_keep hb8 p1) n1', setRG_cell (cell_keep hb8 p2) n1', setRG_cell (cell_keep hb8 m1) n2', setRG_cell (cell_keep hb8 m2) n2'⟩))
      ((go_at_call 49; refine (KPx.out _ ?_).mono ?_; (go_split_ands; assumption); rintro e w8 ⟨rfl, hb8⟩; obtain ⟨⟨t0, t1, t2, t3, t4⟩, tf0, tf1, tf2, tf3, tf4⟩ := ruleCells (block_keep hb8 HH.out.2.2.2.1)))
    obtain ⟨V, hV⟩ : ∃ V, V = setRG w8 (s + 1) ⟨#[98, 97, 115, 101]⟩ x ((M : Int) + y) (k : Int) (.slice none 0 0) := ⟨_, rfl⟩
    have HV : Hid (V.heap[s + 1]? = some (.cells #[.string ⟨#[98, 97, 115, 101]⟩, .int .i64 x, .int .i64 ((M : Int) + y), .int .i64 k, .slice none 0 0] TRf (0, 0)) ∧ V.heap[w.heap.size + 1]? = some (.cells #[.string ⟨#[]⟩, .int .i64 0, .int .i64 0, .int .i64 0, .slice none 0 0] TRf (0, 0)) ∧ Below w.heap.size w V) := by
      rw [hV]
      have := HH.out.2.2.2.2.2
      exact ⟨setRG_same _ _ _ _ _ (block_keep hb8 HH.out.2.2.2.1), setRG_other (block_keep hb8 HH.out.2.1) (by omega), setR_below (HW3.out.trans (hb8.mono HW3.out.size)) (by omega)⟩
    clear t0 t1 t2 t3 t4 tf0 tf1 tf2 tf3 tf4 p0 p1 p2 m0 m1 m2
    unfold setRG at hV
    rw [← hV]
    clear hV
    obtain ⟨⟨t0, t1, t2, t3, t4⟩, -⟩ := ruleCells HV.out.1
    obtain ⟨⟨r0, r1, r2, r3, r4⟩, f0, f1, f2, f3, f4⟩ := ruleCells HV.out.2.1
    have HF : Hid (Below w.heap.size w (setRG V (w.heap.size + 1) ⟨#[98, 97, 115, 101]⟩ x ((M : Int) + y) (k : Int) (.slice none 0 0))) := setR_below HV.out.2.2 (Nat.le_succ _)
    go_wp2_with fail
    refine bodyPost_ret (v := .agg #[.string ⟨#[98, 97, 115, 101]⟩, .int .i64 x, .int .i64 ((M : Int) + y), .int .i64 (k : Int), (.slice none 0 0)]) (by simp [results, Tryz.results84, go_sem, r0, r1, r2, r3, r4]) rfl ?_
    exact ⟨.slice none 0 0, by (rw [HRu.out]; try rfl), by rw [HRu.out]; exact IsInts.nil _ _ _, HF.out⟩
  · have g0 : (kd.toList == [97, 100, 100, 114]) = false := beq_eq_false_iff_ne.2 (fun q => q1 (by rw [hkl] at q; exact q))
    have g1 : (kd.toList == [110, 101, 119]) = false := beq_eq_false_iff_ne.2 (fun q => q2 (by rw [hkl] at q; exact q))
    have g2 : (kd.toList == [102, 117, 110]) = false := beq_eq_false_iff_ne.2 (fun q => q3 (by rw [hkl] at q; exact q))
    have HRu : Hid (ruleD P k = ⟨st.kind, y, x, k, st.args⟩) := by
      show _ = _
      unfold ruleD
      rw [← HST.out.1, if_neg q1, if_neg q2, if_neg q3, HST.out.2.2.1, HST.out.2.2.2.1]
    have HV : Hid (W3.heap[s + 1]? = some (.cells #[.string kd, .int .i64 y, .int .i64 x, .int .i64 k, .slice aa na ac] TRf (0, 0)) ∧ W3.heap[w.heap.size + 1]? = some (.cells #[.string ⟨#[]⟩, .int .i64 0, .int .i64 0, .int .i64 0, .slice none 0 0] TRf (0, 0)) ∧ Below w.heap.size w W3) := ⟨HH.out.2.2.2.1, HH.out.2.1, HH.out.2.2.2.2.1⟩
    clear q1 q2 q3 hkl t0 t1 t2 t3 t4 tf0 tf1 tf2 tf3 tf4
    go_upto_region 10 with fail
    obtain ⟨⟨t0, t1, t2, t3, t4⟩, -⟩ := ruleCells HV.out.1
    obtain ⟨⟨r0, r1, r2, r3, r4⟩, f0, f1, f2, f3, f4⟩ := ruleCells HV.out.2.1
    have HF : Hid (Below w.heap.size w (setRG W3 (w.heap.size + 1) kd y x (k : Int) (.slice aa na ac))) := setR_below HV.out.2.2 (Nat.le_succ _)
    go_wp2_with fail
    refine bodyPost_ret (v := .agg #[.string kd, .int .i64 y, .int .i64 x, .int .i64 (k : Int), (.slice aa na ac)]) (by simp [results, Tryz.results84, go_sem, r0, r1, r2, r3, r4]) rfl ?_
    exact ⟨.slice aa na ac, by (rw [HRu.out, HST.out.2.1]; try rfl), by rw [HRu.out]; exact HI.out, HF.out⟩
end Go.Proofs.YtglonlpfnllocaaGreatDoor

/-
  The document's EdgesOf, by a contract.
-/
namespace Go.Proofs.YtglonlpfnllocaaGreatDoor
open Go.RowKit Go.Extern.Stop Go.Stop Go.Extern

theorem bthen {w0 w1 w2 : World} (h1 : Below w0.heap.size w0 w1) (h2 : Below w1.heap.size w1 w2) : Below w0.heap.size w0 w2 := h1.trans (h2.mono h1.size)
abbrev TRfS : TypeId := 158
abbrev TEd : TypeId := 129
abbrev TEdS : TypeId := 126
theorem Tryz.infoRf : (Tryz.prog.info? 124).map (fun i => (i.zero, i.size, i.bytes)) = some (some (.agg #[.string ⟨#[]⟩, .int .i64 0, .int .i64 0, .int .i64 0, .slice none 0 0]), 5, 64) := by kernel_rfl
theorem Tryz.infoEd : (Tryz.prog.info? 129).map (fun i => (i.zero, i.size, i.bytes)) = some (some (.agg #[.int .i64 0, .int .i64 0]), 2, 16) := by kernel_rfl
def ruleCellsQ (r : RuleD) (av : Value) : List Value := [strV r.kind, intV r.a, intV r.b, intV r.stmt, av]
/-- A row of the document's rules, in memory of its own; their args lie in older memory. -/
structure RowQ (w0 w : World) (u : Value) (rs : List RuleD) (qs : List Value) : Prop where
  l : qs.length = rs.length
  o : w.ownsRow w0.heap.size TRf 5 u rs.length (List.zipWith ruleCellsQ rs qs).flatten
  i : ∀ j, j < rs.length → IsInts w0 (qs.getD j default) (rs.getD j default).args
theorem RowQ.nil (w0 w : World) : RowQ w0 w (.slice none 0 0) [] [] := ⟨rfl, World.ownsRow_nil _ _ _ _, fun _ hj => absurd hj (Nat.not_lt_zero _)⟩
theorem RowQ.below {w0 w w' : World} {u : Value} {rs : List RuleD} {qs : List Value} (h : RowQ w0 w u rs qs) (hb : Below w.heap.size w w') : RowQ w0 w' u rs qs := ⟨h.l, owns_below h.o hb, h.i⟩
theorem RowQ.add {w0 wr : World} {u : Value} {rs : List RuleD} {qs : List Value} (h : RowQ w0 wr u rs qs) (hB : Below w0.heap.size w0 wr) (hl : rs.length ≤ 1000000) (r : RuleD) (pv : Value) (hp : IsInts w0 pv r.args) :
    ∃ va vn vc w', (Builtin.append_ #[TRfS, TRfS] TRfS #[u, .slice (some ⟨wr.heap.size, 0, none⟩) 1 1]).run Tryz.prog (wr.alloc (.cells #[.string (S r.kind), .int .i64 r.a, .int .i64 r.b, .int .i64 r.stmt, pv] TRf)) = .ok (.slice va vn vc) w' ∧ vn = rs.length + 1 ∧ RowQ w0 w' (.slice va vn vc) (rs ++ [r]) (qs ++ [pv]) ∧ Below w0.heap.size wr w' ∧ Kept TRf wr w' := by
  obtain ⟨pa, pc, rfl⟩ := isInts_form hp
  obtain ⟨v', w', hr, ho, hb, hk⟩ := append_one wr w0.heap.size u rs.length 5 64 TRfS TRf (.agg #[.string ⟨#[]⟩, .int .i64 0, .int .i64 0, .int .i64 0, .slice none 0 0]) _ (ruleCellsQ r (.slice pa r.args.length pc)) h.o hB.size Tryz.underlying158 Tryz.infoRf (by decide) rfl rfl (fun x hx => by
    simp only [ruleCellsQ, List.mem_cons, List.not_mem_nil, or_false] at hx
    rcases hx with rfl | rfl | rfl | rfl | rfl <;> rfl) hl TRfS (by decide)
  obtain ⟨va, vc, rfl⟩ := owns_form ho
  refine ⟨va, _, vc, w', hr, rfl, ⟨by rw [List.length_append, List.length_append, h.l]; rfl, ?_, fun j hj => ?_⟩, hb, hk⟩
  · rw [zip_snoc ruleCellsQ rs qs h.l, List.length_append]
    exact ho
  · by_cases e : j < rs.length
    · rw [getD_snoc_left _ _ _ _ e, getD_snoc_left _ _ _ _ (by rw [h.l]; exact e)]
      exact h.i j e
    · have e2 : j = rs.length := by rw [List.length_append, List.length_singleton] at hj; omega
      rw [getD_snoc_last _ _ _ _ e2, getD_snoc_last _ _ _ _ (by rw [h.l]; exact e2)]
      exact hp
theorem RowQ.at {w0 w : World} {u : Value} {rs : List RuleD} {qs : List Value} (h : RowQ w0 w u rs qs) (j : Nat) (hj : j < rs.length) : ∃ g cap, u = .slice (some ⟨g, 0, none⟩) rs.length cap ∧ w.cell? ⟨g, j * 5, none⟩ = some (.string (S (rs.getD j default).kind)) ∧ w.cell? ⟨g, j * 5 + 1, none⟩ = some (.int .i64 (rs.getD j default).a) ∧ w.cell? ⟨g, j * 5 + 2, none⟩ = some (.int .i64 (rs.getD j default).b) ∧ w.cell? ⟨g, j * 5 + 3, none⟩ = some (.int .i64 (rs.getD j default).stmt) ∧ w.cell? ⟨g, j * 5 + 4, none⟩ = some (qs.getD j default) := by
  rcases h.o.2 with ⟨hv, h0⟩ | ⟨g, cap, cur, hv, _, _, hcap, _⟩
  · omega
  · refine ⟨g, cap, hv, ?_, ?_, ?_, ?_, ?_⟩
    all_goals
      have hz := zip_at ruleCellsQ rs qs h.l j hj
      have hlen : ∀ l ∈ List.zipWith ruleCellsQ rs qs, l.length = 5 := fun l hl => by
        obtain ⟨i, hi, rfl⟩ := List.mem_iff_getElem.1 hl
        simp [ruleCellsQ]
    · have := h.o.cells (show u.ownBlock = some g by rw [hv]; rfl) (j * 5 + 0) _ (by rw [flatten_at _ 5 hlen j 0 _ hz (by decide)]; rfl)
      rw [Addr.add_lit] at this
      simpa [strV, intV] using this
    · have := h.o.cells (show u.ownBlock = some g by rw [hv]; rfl) (j * 5 + 1) _ (by rw [flatten_at _ 5 hlen j 1 _ hz (by decide)]; rfl)
      rw [Addr.add_lit] at this
      simpa [strV, intV] using this
    · have := h.o.cells (show u.ownBlock = some g by rw [hv]; rfl) (j * 5 + 2) _ (by rw [flatten_at _ 5 hlen j 2 _ hz (by decide)]; rfl)
      rw [Addr.add_lit] at this
      simpa [strV, intV] using this
    · have := h.o.cells (show u.ownBlock = some g by rw [hv]; rfl) (j * 5 + 3) _ (by rw [flatten_at _ 5 hlen j 3 _ hz (by decide)]; rfl)
      rw [Addr.add_lit] at this
      simpa [strV, intV] using this
    · have := h.o.cells (show u.ownBlock = some g by rw [hv]; rfl) (j * 5 + 4) _ (by rw [flatten_at _ 5 hlen j 4 _ hz (by decide)]; rfl)
      rw [Addr.add_lit] at this
      simpa [strV, intV] using this
/-- A row of the document's edges, in memory of its own. -/
def RowPd (w0 w : World) (u : Value) (es : List Pair) : Prop := w.ownsRow w0.heap.size TEd 2 u es.length (ecells es)
theorem RowPd.nil (w0 w : World) : RowPd w0 w (.slice none 0 0) [] := World.ownsRow_nil _ _ _ _
theorem RowPd.below {w0 w w' : World} {u : Value} {es : List Pair} (h : RowPd w0 w u es) (hb : Below w.heap.size w w') : RowPd w0 w' u es := owns_below h hb
theorem RowPd.add {w0 wr : World} {u : Value} {es : List Pair} (h : RowPd w0 wr u es) (hB : Below w0.heap.size w0 wr) (hl : es.length ≤ 1000000) (p : Pair) :
    ∃ va vn vc w', (Builtin.append_ #[TEdS, TEdS] TEdS #[u, .slice (some ⟨wr.heap.size, 0, none⟩) 1 1]).run Tryz.prog (wr.alloc (.cells #[.int .i64 p.1, .int .i64 p.2] TEd)) = .ok (.slice va vn vc) w' ∧ vn = es.length + 1 ∧ RowPd w0 w' (.slice va vn vc) (es ++ [p]) ∧ Below w0.heap.size wr w' := by
  obtain ⟨v', w', hr, ho, hb, -⟩ := append_one wr w0.heap.size u es.length 2 16 TEdS TEd (.agg #[.int .i64 0, .int .i64 0]) _ (pairCells p) h hB.size Tryz.underlying126 Tryz.infoEd (by decide) rfl rfl (fun x hx => by
    simp only [pairCells, List.mem_cons, List.not_mem_nil, or_false] at hx
    rcases hx with rfl | rfl <;> rfl) hl TEdS (by decide)
  obtain ⟨va, vc, rfl⟩ := owns_form ho
  refine ⟨va, _, vc, w', hr, rfl, ?_, hb⟩
  unfold RowPd
  rw [ecells_snoc, List.length_append]
  exact ho
theorem RowPd.form {w0 w : World} {u : Value} {es : List Pair} (h : RowPd w0 w u es) : ∃ a c, u = .slice a es.length c := owns_form h
theorem RowPd.isPairs {w0 w : World} {u : Value} {es : List Pair} (h : RowPd w0 w u es) : IsPairs w u es := by
  rcases h.2 with ⟨hv, h0⟩ | ⟨g, cap, cur, hv, hg, hh, hcap, hmax, hsz, hcur⟩
  · exact ⟨none, 0, by rw [hv, h0], fun j hj => absurd hj (by omega)⟩
  · have hp : ∀ j, j < es.length * 2 → w.cell? ⟨g, j, none⟩ = (ecells es)[j]? := fun j hj => by
      rw [Lib.cell_of_heap hh, ← hcur, List.getElem?_take_of_lt hj]
      simp
    refine ⟨_, cap, hv, fun j hj => ⟨g, rfl, ?_, ?_⟩⟩
    · rw [hp _ (by omega)]; exact (ecells_at es j hj).1
    · rw [hp _ (by omega)]; exact (ecells_at es j hj).2
/-- The document's edges, in a block of their own. -/
def EdgeBlk (w : World) (v : Value) (es : List Pair) : Prop := (v = .slice none 0 0 ∧ es = []) ∨ ∃ g c cur, v = .slice (some ⟨g, 0, none⟩) es.length c ∧ w.heap[g]? = some (.cells cur TEd (0, 0)) ∧ ∀ j, j < es.length * 2 → cur[j]? = (ecells es)[j]?
theorem EdgeBlk.isPairs {w : World} {v : Value} {es : List Pair} (h : EdgeBlk w v es) : IsPairs w v es := by
  rcases h with ⟨rfl, rfl⟩ | ⟨g, c, cur, hv, hh, hc⟩
  · exact ⟨none, 0, rfl, fun j hj => absurd hj (Nat.not_lt_zero _)⟩
  · refine ⟨_, c, hv, fun j hj => ⟨g, rfl, ?_, ?_⟩⟩
    · rw [Lib.cell_of_heap hh, hc _ (by omega)]; exact (ecells_at es j hj).1
    · rw [Lib.cell_of_heap hh, hc _ (by omega)]; exact (ecells_at es j hj).2
theorem EdgeBlk.keep {w w' : World} {v : Value} {es : List Pair} (h : EdgeBlk w v es) (hk : ∀ (b : Nat) (cs : Array Value), w.heap[b]? = some (.cells cs TEd (0, 0)) → w'.heap[b]? = some (.cells cs TEd (0, 0))) : EdgeBlk w' v es := by
  rcases h with h | ⟨g, c, cur, hv, hh, hc⟩
  · exact Or.inl h
  · exact Or.inr ⟨g, c, cur, hv, hk _ _ hh, hc⟩
theorem RowPd.blk {w0 w : World} {u : Value} {es : List Pair} (h : RowPd w0 w u es) : EdgeBlk w u es := by
  rcases h.2 with ⟨hv, h0⟩ | ⟨g, cap, cur, hv, hg, hh, hcap, hmax, hsz, hcur⟩
  · exact Or.inl ⟨hv, List.eq_nil_of_length_eq_zero h0⟩
  · refine Or.inr ⟨g, cap, cur, hv, hh, fun j hj => ?_⟩
    rw [← hcur, List.getElem?_take_of_lt hj]
    simp
/-- The rules that are no base, of the first k statements. -/
def nonBaseTo (P : ProgD) (k : Nat) : List RuleD := ((List.range k).map (ruleD P)).filter fun r => !(r.kind == kBase)
theorem nonBaseTo_all (P : ProgD) : nonBaseTo P P.stmts.length = nonBase P := rfl
theorem nonBaseTo_yes (P : ProgD) (k : Nat) (h : (ruleD P k).kind ≠ kBase) : nonBaseTo P (k + 1) = nonBaseTo P k ++ [ruleD P k] := by
  unfold nonBaseTo
  rw [List.range_succ, List.map_append, List.filter_append]
  simp [h]
theorem nonBaseTo_no (P : ProgD) (k : Nat) (h : (ruleD P k).kind = kBase) : nonBaseTo P (k + 1) = nonBaseTo P k := by
  unfold nonBaseTo
  rw [List.range_succ, List.map_append, List.filter_append]
  simp [h]
theorem nonBaseTo_len (P : ProgD) (k : Nat) : (nonBaseTo P k).length ≤ k := by
  unfold nonBaseTo
  have := List.length_filter_le (fun r : RuleD => !(r.kind == kBase)) ((List.range k).map (ruleD P))
  simpa using this
theorem rule_kinds5 {P : ProgD} (hc : checkE P = none) (r : RuleD) (hr : r ∈ rulesD P) (hb : r.kind ≠ kBase) : r.kind = kCopy ∨ r.kind = kLoad ∨ r.kind = kStore ∨ r.kind = kCall := by
  obtain ⟨k, hk, rfl⟩ := List.mem_map.1 hr
  have hk' := List.mem_range.1 hk
  obtain ⟨k1, -⟩ := stmt_parts ((right_of hc).st _ (getDmC hk'))
  simp only [kinds, List.contains_cons, List.contains_nil, Bool.or_false, Bool.or_eq_true, beq_iff_eq] at k1
  unfold ruleD at hb ⊢
  by_cases e1 : (P.stmts.getD k default).kind = kAddr
  · rw [if_pos e1] at hb; exact absurd rfl hb
  rw [if_neg e1] at hb ⊢
  by_cases e2 : (P.stmts.getD k default).kind = kNew
  · rw [if_pos e2] at hb; exact absurd rfl hb
  rw [if_neg e2] at hb ⊢
  by_cases e3 : (P.stmts.getD k default).kind = kFun
  · rw [if_pos e3] at hb; exact absurd rfl hb
  rw [if_neg e3] at hb ⊢
  show (P.stmts.getD k default).kind = _ ∨ (P.stmts.getD k default).kind = _ ∨ (P.stmts.getD k default).kind = _ ∨ (P.stmts.getD k default).kind = _
  rcases k1 with h | h | h | h | h | h | h <;> simp_all
theorem rowE_yes (P : ProgD) (hs : List (List Int)) (a m : Nat) (h : pairB P hs a m = true) : rowE P hs a (m + 1) = rowE P hs a m ++ [((a : Int), (m : Int))] := by
  unfold rowE
  rw [List.range_succ, List.filter_append, List.map_append]
  simp [h]
theorem rowE_no (P : ProgD) (hs : List (List Int)) (a m : Nat) (h : pairB P hs a m = false) : rowE P hs a (m + 1) = rowE P hs a m := by
  unfold rowE
  rw [List.range_succ, List.filter_append, List.map_append]
  simp [h]
theorem refEdges_succ (P : ProgD) (hs : List (List Int)) (m : Nat) : refEdges P hs (m + 1) = refEdges P hs m ++ rowE P hs m hs.length := by
  unfold refEdges
  rw [List.range_succ, List.flatMap_append]
  simp
theorem rowE_len (P : ProgD) (hs : List (List Int)) (a m : Nat) : (rowE P hs a m).length ≤ m := by
  unfold rowE
  have := List.length_filter_le (fun b : Nat => pairB P hs a b) (List.range m)
  simpa using this
theorem refEdges_len (P : ProgD) (hs : List (List Int)) (m : Nat) : (refEdges P hs m).length ≤ m * hs.length := by
  induction m with
  | zero => simp [refEdges]
  | succ m ih =>
    rw [refEdges_succ, List.length_append, Nat.succ_mul]
    have := rowE_len P hs m hs.length
    omega
end Go.Proofs.YtglonlpfnllocaaGreatDoor

/-
  The document's EdgesOf, by a contract: its walk.
-/
namespace Go.Proofs.YtglonlpfnllocaaGreatDoor
open Go.RowKit Go.Extern.Stop Go.Stop Go.Extern

/-- What EdgesOf tells. -/
def REdgesPost (P : ProgD) (hs : List (List Int)) (w w' : World) (e : Ending) : Prop := ∃ v, e = .returned v ∧ EdgeBlk w' v (refEdges P hs hs.length) ∧ Below w.heap.size w w'
theorem getD_take_lt {α : Type} (l : List α) (k j : Nat) (d : α) (h : j < k) : (l.take k).getD j d = l.getD j d := by
  simp [List.getD, List.getElem?_take_of_lt h]
theorem any_take_yes {α : Type} (d : α) (p : α → Bool) (zs : List α) (k : Nat) (h : k < zs.length) (h2 : p (zs.getD k d) = true) : zs.any p = true := by
  rw [List.any_eq_true]
  exact ⟨zs[k], List.getElem_mem h, by simpa [List.getD, h] using h2⟩
set_option maxRecDepth 100000 in
set_option maxHeartbeats 16000000 in
theorem refEdgesOf_any (P : ProgD) (v1 v2 v3 hv : Value) (hs : List (List Int)) (w : World) (hS : SmallP P) (hc : checkE P = none) (h : IsProg w v1 v2 v3 P) (hH : IsSets w hv hs) (hok : SetsOk P hs) :
    Calls Tryz.prog 85 #[.agg #[v1, v2, v3], hv] w fun e w' => REdgesPost P hs w w' e := by
  have H : Hid (IsProg w v1 v2 v3 P ∧ IsSets w hv hs ∧ SetsOk P hs ∧ SmallP P ∧ checkE P = none) := ⟨h, hH, hok, hS, hc⟩
  obtain ⟨⟨a1, c1, rfl, -, -⟩, ⟨a2, c2, rfl, -, -⟩, ⟨a3, c3, rfl, -, -⟩⟩ := h
  obtain ⟨ha, hcc, rfl, -⟩ := hH
  obtain ⟨n1, hn1⟩ : ∃ m, m = P.vars.length := ⟨_, rfl⟩
  obtain ⟨n2, hn2⟩ : ∃ m, m = P.funs.length := ⟨_, rfl⟩
  obtain ⟨n3, hn3⟩ : ∃ m, m = P.stmts.length := ⟨_, rfl⟩
  obtain ⟨n, hnn⟩ : ∃ m, m = hs.length := ⟨_, rfl⟩
  have HN : Hid (n1 = P.vars.length ∧ n2 = P.funs.length ∧ n3 = P.stmts.length ∧ n = hs.length) := ⟨hn1, hn2, hn3, hnn⟩
  have hn3l : n3 ≤ 80 := by rw [hn3]; exact (right_small hc).1
  have hnl : n ≤ 200 := by
    obtain ⟨s1, s2, s3⟩ := right_small hc
    have hpl := places_le P P.stmts.length
    have := hok.len
    omega
  rw [← hn1, ← hn2, ← hn3] at H ⊢
  rw [← hnn] at H ⊢
  have KN : Hid (∀ wx, Below w.heap.size w wx → Calls Tryz.prog 49 #[.agg #[.slice a1 n1 c1, .slice a2 n2 c2, .slice a3 n3 c3]] wx fun e w' => e = .returned (.int .i64 (n : Int)) ∧ Below wx.heap.size wx w') := fun wx hb => by
    have := refNodes_any P _ _ _ wx hS (H.out.1.below hb)
    rw [← H.out.2.2.1.len, ← HN.out.2.2.2] at this
    exact this
  obtain ⟨W, hW⟩ : ∃ W, W = w.alloc (.cells #[.slice a1 n1 c1, .slice a2 n2 c2, .slice a3 n3 c3] 26) := ⟨_, rfl⟩
  have hBW : Below w.heap.size w W := by rw [hW]; exact below1 w _
  have HBX : Hid (Box3 W w.heap.size (.slice a1 n1 c1) (.slice a2 n2 c2) (.slice a3 n3 c3)) := by
    show Box3 W _ _ _ _
    rw [hW]; exact box3_new w _ _ _ _
  have HX : Hid (∀ wx, Below W.heap.size W wx → Box3 wx w.heap.size (.slice a1 n1 c1) (.slice a2 n2 c2) (.slice a3 n3 c3) ∧ Below w.heap.size w wx ∧ Below W.heap.size W wx) := fun wx hb => ⟨HBX.out.below hb, hBW.trans (hb.mono hBW.size), hb⟩
  obtain ⟨⟨p0, p1, p2⟩, -, -⟩ := HX.out W (Below.refl _ _)
  have HWW : Hid (Below w.heap.size w W) := hBW
  clear hn1 hn2 hn3 hnn hS hc hok HBX
  go_enter Tryz.func85, Tryz.ntmps85
  go_upto_region 1 with fail
  rw [← hW]
  clear hW
  go_wp2_with fail
  refine (KN.out W hBW).mono ?_
  rintro e w1 ⟨rfl, hb1⟩
  have HB1 : Hid (Below W.heap.size W w1) := hb1
  clear p0 p1 p2 hb1 hBW KN
  go_wp2_with fail
  go_loopw [6, 7] (fun t6 t7 wr => ∃ (k : Nat) (qs : List Value), k ≤ n3 ∧ t7 = .int .i64 (k : Int) ∧ RowQ W wr t6 (nonBaseTo P k) qs ∧ Below W.heap.size W wr) (fun _ t7 _ => (n3 - intOf t7).toNat)
  case atStart => exact ⟨0, [], Nat.zero_le _, rfl, RowQ.nil _ _, HB1.out⟩
  case round =>
    clear HB1
    obtain ⟨k, qs, hk, rfl, hrow, hbr⟩ := hrel
    obtain ⟨ua, uc, rfl⟩ := owns_form hrow.o
    obtain ⟨rl, hrl⟩ : ∃ m, m = (nonBaseTo P k).length := ⟨_, rfl⟩
    have HRW : Hid (RowQ W wr (.slice ua rl uc) (nonBaseTo P k) qs ∧ Below W.heap.size W wr ∧ rl = (nonBaseTo P k).length ∧ rl ≤ 80) := by
      refine ⟨by rw [hrl]; exact hrow, hbr, hrl, ?_⟩
      have := nonBaseTo_len P k
      omega
    rw [← hrl]
    obtain ⟨⟨p0, p1, p2⟩, -, -⟩ := HX.out wr hbr
    clear hrow hrl hbr
    by_cases hlt : k < n3
    · have hki : (k : Int) < n3 := by omega
      obtain ⟨r, hr⟩ : ∃ r, r = ruleD P k := ⟨_, rfl⟩
      obtain ⟨kd, hkd⟩ : ∃ kd, kd = S r.kind := ⟨_, rfl⟩
      have hkl : kd.toList = r.kind := by rw [hkd, S_toList]
      obtain ⟨ra, hra⟩ : ∃ z, z = r.a := ⟨_, rfl⟩
      obtain ⟨rb, hrb⟩ : ∃ z, z = r.b := ⟨_, rfl⟩
      obtain ⟨rs, hrs⟩ : ∃ z, z = r.stmt := ⟨_, rfl⟩
      obtain ⟨na, hna⟩ : ∃ z, z = r.args.length := ⟨_, rfl⟩
      have HRD : Hid (r = ruleD P k ∧ kd = S r.kind ∧ ra = r.a ∧ rb = r.b ∧ rs = r.stmt ∧ na = r.args.length) := ⟨hr, hkd, hra, hrb, hrs, hna⟩
      have KR : Hid (Calls Tryz.prog 84 #[.agg #[.slice a1 n1 c1, .slice a2 n2 c2, .slice a3 n3 c3], .int .i64 (k : Int)] wr fun e w' => ∃ aa ac, e = .returned (.agg #[.string kd, .int .i64 ra, .int .i64 rb, .int .i64 rs, .slice aa na ac]) ∧ IsInts W (.slice aa na ac) r.args ∧ Below wr.heap.size wr w') := by
        refine (refRule_any P k _ _ _ W wr H.out.2.2.2.1 H.out.2.2.2.2 (H.out.1.below HWW.out) HRW.out.2.1 (by rw [← HN.out.2.2.1]; exact hlt)).mono ?_
        rintro e w' ⟨av, rfl, hi, hb⟩
        rw [← hr] at hi ⊢
        obtain ⟨aa, ac, rfl⟩ := isInts_form hi
        rw [hkd, hra, hrb, hrs, hna]
        exact ⟨aa, ac, rfl, hi, hb⟩
      clear hr hkd hra hrb hrs hna
      go_wp2_with fail
      refine KR.out.mono ?_
      rintro e w5 ⟨aa, ac, rfl, hai, hb5⟩
      have HA : Hid (IsInts W (.slice aa na ac) r.args ∧ RowQ W w5 (.slice ua rl uc) (nonBaseTo P k) qs ∧ Below W.heap.size W w5) := ⟨hai, HRW.out.1.below hb5, HRW.out.2.1.trans (hb5.mono HRW.out.2.1.size)⟩
      clear hai hb5 KR p0 p1 p2
      go_upto_region 7 with fail
      obtain ⟨W6, hW6⟩ : ∃ W6, W6 = w5.alloc (.cells #[.string kd, .int .i64 ra, .int .i64 rb, .int .i64 rs, .slice aa na ac] TRf) := ⟨_, rfl⟩
      have HG : Hid (W6.heap[w5.heap.size]? = some (.cells #[.string kd, .int .i64 ra, .int .i64 rb, .int .i64 rs, .slice aa na ac] TRf (0, 0)) ∧ RowQ W W6 (.slice ua rl uc) (nonBaseTo P k) qs ∧ Below W.heap.size W W6) := by
        have hb6 : Below w5.heap.size w5 W6 := by rw [hW6]; exact below1 w5 _
        refine ⟨by rw [hW6]; exact heap_new w5 _, HA.out.2.1.below hb6, HA.out.2.2.trans (hb6.mono HA.out.2.2.size)⟩
      rw [← hW6]
      clear hW6
      obtain ⟨g5, hg5⟩ : ∃ g, g = w5.heap.size := ⟨_, rfl⟩
      rw [← hg5] at HG ⊢
      clear hg5
      obtain ⟨⟨t0, t1, t2, t3, t4⟩, -⟩ := ruleCells HG.out.1
      by_cases hbs : r.kind = kBase
      · have g0 : (kd.toList == [98, 97, 115, 101]) = true := by rw [hkl, hbs]; decide
        have HNX : Hid (nonBaseTo P (k + 1) = nonBaseTo P k) := nonBaseTo_no P k (by rw [← HRD.out.1]; exact hbs)
        clear hbs hkl
        go_wp2_with fail
        go_roundw
        case rel => exact ⟨k + 1, qs, hlt, by go_num, by rw [HNX.out]; exact HG.out.2.1, HG.out.2.2⟩
        case measure => simp [intOf]; omega
      · have g0 : (kd.toList == [98, 97, 115, 101]) = false := by rw [hkl]; exact beq_eq_false_iff_ne.2 hbs
        have HNX : Hid (nonBaseTo P (k + 1) = nonBaseTo P k ++ [r]) := by
          show _ = _
          rw [HRD.out.1]; exact nonBaseTo_yes P k (by rw [← HRD.out.1]; exact hbs)
        obtain ⟨va, vn, vc, w7, hrun, hvn, hrow7, hb7, -⟩ := HG.out.2.1.add HG.out.2.2 (by rw [← HRW.out.2.2.1]; have := HRW.out.2.2.2; omega) r (.slice aa na ac) HA.out.1
        rw [← HRD.out.2.1, ← HRD.out.2.2.1, ← HRD.out.2.2.2.1, ← HRD.out.2.2.2.2.1] at hrun
        have HR7 : Hid ((Builtin.append_ #[TRfS, TRfS] TRfS #[.slice ua rl uc, .slice (some ⟨W6.heap.size, 0, none⟩) 1 1]).run Tryz.prog (W6.alloc (.cells #[.string kd, .int .i64 ra, .int .i64 rb, .int .i64 rs, .slice aa na ac] TRf)) = .ok (.slice va vn vc) w7) := hrun
        have HK7 : Hid (RowQ W w7 (.slice va vn vc) (nonBaseTo P (k + 1)) (qs ++ [.slice aa na ac]) ∧ Below W.heap.size W w7) := by
          refine ⟨?_, HG.out.2.2.trans hb7⟩
          rw [HNX.out]; exact hrow7
        clear hbs hkl hrun hrow7 hb7 hvn
        go_wp2_with (at_builtin; refine Lib.wpList_append_run _ rfl _ _ _ _ rfl _ _ rfl rfl _ _ HR7.out ?_)
        go_roundw
        case rel => exact ⟨k + 1, _, hlt, by go_num, HK7.out.1, HK7.out.2⟩
        case measure => simp [intOf]; omega
    · have hkn : k = n3 := by omega
      obtain ⟨w2, rfl⟩ : ∃ z, z = wr := ⟨_, rfl⟩
      have HR2 : Hid (RowQ W w2 (.slice ua rl uc) (nonBase P) qs ∧ Below W.heap.size W w2 ∧ rl = (nonBase P).length ∧ rl ≤ 80) := by
        have := HRW.out
        rw [hkn, HN.out.2.2.1, nonBaseTo_all] at this
        exact this
      have hrl80 : rl ≤ 80 := HR2.out.2.2.2
      have KE2 : Hid (∀ j, j < rl → ∃ (g : Nat) (kd : ByteArray) (ra rb rs : Int) (aa : Option Addr) (na ac : Nat), ua = some ⟨g, 0, none⟩ ∧ w2.cell? ⟨g, j * 5, none⟩ = some (.string kd) ∧ w2.cell? ⟨g, j * 5 + 1, none⟩ = some (.int .i64 ra) ∧ w2.cell? ⟨g, j * 5 + 2, none⟩ = some (.int .i64 rb) ∧ w2.cell? ⟨g, j * 5 + 3, none⟩ = some (.int .i64 rs) ∧ w2.cell? ⟨g, j * 5 + 4, none⟩ = some (.slice aa na ac) ∧ ∀ wx, Below w2.heap.size w2 wx → ∀ x y : Nat, Calls Tryz.prog 114 #[.agg #[.slice a1 n1 c1, .slice a2 n2 c2, .slice a3 n3 c3], .agg #[.string kd, .int .i64 ra, .int .i64 rb, .int .i64 rs, .slice aa na ac], .slice ha n hcc, .int .i64 (x : Int), .int .i64 (y : Int)] wx fun e w' => e = .returned (.bool (isEdgeB P hs ((nonBase P).getD j default) x y)) ∧ Below wx.heap.size wx w') := fun j hj => by
        have hj' : j < (nonBase P).length := by rw [← HR2.out.2.2.1]; exact hj
        obtain ⟨g, cap, hu, e0, e1, e2, e3, e4⟩ := HR2.out.1.at j hj'
        have hi := HR2.out.1.i j hj'
        have hmem : (nonBase P).getD j default ∈ nonBase P := getDmC hj'
        obtain ⟨r, hr⟩ : ∃ r, r = (nonBase P).getD j default := ⟨_, rfl⟩
        obtain ⟨av, hav⟩ : ∃ z, z = qs.getD j default := ⟨_, rfl⟩
        rw [← hr] at e0 e1 e2 e3 hi hmem ⊢
        rw [← hav] at e4 hi
        obtain ⟨aa, ac, rfl⟩ := isInts_form hi
        obtain ⟨hm1, hm2⟩ := List.mem_filter.1 hmem
        have hkb : r.kind ≠ kBase := by simpa using hm2
        obtain ⟨ha1, hb1, -, -⟩ := rule_names H.out.2.2.2.2 r hm1
        have hb1' := hb1 hkb
        have hv : P.vars.length ≤ hs.length := by rw [H.out.2.2.1.len]; unfold places; omega
        injection hu with hu1 _ _
        refine ⟨g, _, _, _, _, aa, _, ac, hu1, e0, e1, e2, e3, e4, fun wx hwx x y => ?_⟩
        have hbw : Below w.heap.size w wx := (HX.out w2 HR2.out.2.1).2.1.trans (hwx.mono (HX.out w2 HR2.out.2.1).2.1.size)
        have hbW : Below W.heap.size W wx := HR2.out.2.1.trans (hwx.mono HR2.out.2.1.size)
        exact refIsEdge_any P _ _ _ _ hs r (.slice aa _ ac) x y wx H.out.2.2.2.1 H.out.2.2.2.2 (H.out.1.below hbw) (H.out.2.1.below hbw) H.out.2.2.1 (hi.below hbW) (by omega) (by omega) (rule_kinds5 H.out.2.2.2.2 r hm1 hkb)
      have hki : ¬ (k : Int) < n3 := by omega
      clear HRW hkn hlt
      go_wp2_with fail
      clear p0 p1 p2
      go_loopw [9, 10] (fun t9 t10 wq => ∃ a : Nat, a ≤ n ∧ t10 = .int .i64 (a : Int) ∧ RowPd w2 wq t9 (refEdges P hs a) ∧ Below w2.heap.size w2 wq) (fun _ t10 _ => (n - intOf t10).toNat)
      case atStart => exact ⟨0, Nat.zero_le _, rfl, RowPd.nil _ _, Below.refl _ _⟩
      case round =>
        obtain ⟨wq, rfl⟩ : ∃ z, z = wr := ⟨_, rfl⟩
        obtain ⟨t9, rfl⟩ : ∃ z, z = u9 := ⟨_, rfl⟩
        obtain ⟨a, hal, rfl, hrow, hbq⟩ := hrel
        by_cases hla : a < n
        · have hai : (a : Int) < n := by omega
          have HQ0 : Hid (RowPd w2 wq t9 (refEdges P hs a) ∧ Below w2.heap.size w2 wq) := ⟨hrow, hbq⟩
          clear hrow hbq
          go_wp2_with fail
          go_loopw [9, 11] (fun t9 t11 wq => ∃ b : Nat, b ≤ n ∧ t11 = .int .i64 (b : Int) ∧ RowPd w2 wq t9 (refEdges P hs a ++ rowE P hs a b) ∧ Below w2.heap.size w2 wq) (fun _ t11 _ => (n - intOf t11).toNat)
          case atStart => exact ⟨0, Nat.zero_le _, rfl, by have := HQ0.out.1; simpa [rowE] using this, HQ0.out.2⟩
          case round =>
            clear HQ0
            obtain ⟨wq, rfl⟩ : ∃ z, z = wr := ⟨_, rfl⟩
            obtain ⟨b, hbl, rfl, hrow, hbq⟩ := hrel
            obtain ⟨oa, oc, rfl⟩ := hrow.form
            obtain ⟨on, hon⟩ : ∃ m, m = (refEdges P hs a ++ rowE P hs a b).length := ⟨_, rfl⟩
            rw [← hon]
            by_cases hlb : b < n
            · have hbi : (b : Int) < n := by omega
              have HQ : Hid (RowPd w2 wq (.slice oa on oc) (refEdges P hs a ++ rowE P hs a b) ∧ Below w2.heap.size w2 wq ∧ on = (refEdges P hs a ++ rowE P hs a b).length ∧ on ≤ 1000000) := by
                refine ⟨by rw [hon]; exact hrow, hbq, hon, ?_⟩
                have h1 := refEdges_len P hs a
                have h2 := rowE_len P hs a b
                have h3 : a * hs.length ≤ 200 * 200 := Nat.mul_le_mul (by omega) (by rw [← HN.out.2.2.2]; exact hnl)
                rw [hon, List.length_append]
                omega
              clear hrow hbq hon
              go_wp2_with fail
              go_loopw [12, 13] (fun t12 t13 wp => ∃ (k : Nat) (D : Bool), k ≤ rl ∧ t13 = .int .i64 (k : Int) ∧ t12 = .bool D ∧ Below wq.heap.size wq wp ∧ (D = true → pairB P hs a b = true) ∧ (D = false → a = b ∨ ((nonBase P).take k).any (fun r => isEdgeB P hs r a b) = false)) (fun _ t13 _ => (rl - intOf t13).toNat)
              case atStart => exact ⟨0, false, Nat.zero_le _, rfl, rfl, Below.refl _ _, fun q => (by cases q), fun _ => Or.inr rfl⟩
              case round =>
                obtain ⟨wp, rfl⟩ : ∃ z, z = wr := ⟨_, rfl⟩
                obtain ⟨k, D, hk, rfl, rfl, hbp, hD1, hD0⟩ := hrel
                have HP : Hid (Below wq.heap.size wq wp ∧ (D = true → pairB P hs a b = true) ∧ (D = false → a = b ∨ ((nonBase P).take k).any (fun r => isEdgeB P hs r a b) = false)) := ⟨hbp, hD1, hD0⟩
                clear hbp hD1 hD0
                have hcs : (k < rl ∧ D = false ∧ a ≠ b) ∨ ((¬ k < rl ∨ (k < rl ∧ D = true) ∨ (k < rl ∧ D = false ∧ a = b)) ∧ pairB P hs a b = D) := by
                  by_cases h1 : k < rl
                  · cases D with
                    | true => exact Or.inr ⟨Or.inr (Or.inl ⟨h1, rfl⟩), HP.out.2.1 rfl⟩
                    | false =>
                      by_cases h2 : a = b
                      · refine Or.inr ⟨Or.inr (Or.inr ⟨h1, rfl, h2⟩), ?_⟩
                        unfold pairB
                        simp [h2]
                      · exact Or.inl ⟨h1, rfl, h2⟩
                  · refine Or.inr ⟨Or.inl h1, ?_⟩
                    cases D with
                    | true => exact HP.out.2.1 rfl
                    | false =>
                      unfold pairB
                      rcases HP.out.2.2 rfl with q | q
                      · simp [q]
                      · rw [List.take_of_length_le (by rw [← HR2.out.2.2.1]; omega)] at q
                        rw [q, Bool.and_false]
                have HBP : Hid (Below w2.heap.size w2 wp) := HQ.out.2.1.trans (HP.out.1.mono HQ.out.2.1.size)
                rcases hcs with ⟨h1, rfl, h2⟩ | ⟨hx, hpair⟩
                · have hki : (k : Int) < rl := by omega
                  have hab : ¬ ((a : Int) = (b : Int)) := by omega
                  obtain ⟨g, kd, ra, rb, rs, aa, na, ac, rfl, e0, e1, e2, e3, e4, KC0⟩ := KE2.out k h1
                  have KC : Hid (∀ wx, Below wp.heap.size wp wx → Calls Tryz.prog 114 #[.agg #[.slice a1 n1 c1, .slice a2 n2 c2, .slice a3 n3 c3], .agg #[.string kd, .int .i64 ra, .int .i64 rb, .int .i64 rs, .slice aa na ac], .slice ha n hcc, .int .i64 (a : Int), .int .i64 (b : Int)] wx fun e w' => e = .returned (.bool (isEdgeB P hs ((nonBase P).getD k default) a b)) ∧ Below wx.heap.size wx w') := fun wx hwx => KC0 wx (HBP.out.trans (hwx.mono HBP.out.size)) a b
                  obtain ⟨R, hR⟩ : ∃ R, R = isEdgeB P hs ((nonBase P).getD k default) a b := ⟨_, rfl⟩
                  rw [← hR] at KC
                  have HPN : Hid (a = b ∨ ((nonBase P).take k).any (fun r => isEdgeB P hs r a b) = false) := HP.out.2.2 rfl
                  have HRR : Hid (R = isEdgeB P hs ((nonBase P).getD k default) a b ∧ k < (nonBase P).length) := ⟨hR, by rw [← HR2.out.2.2.1]; exact h1⟩
                  replace e0 := cell_keep HBP.out e0
                  replace e1 := cell_keep HBP.out e1
                  replace e2 := cell_keep HBP.out e2
                  replace e3 := cell_keep HBP.out e3
                  replace e4 := cell_keep HBP.out e4
                  obtain ⟨⟨p0, p1, p2⟩, -, -⟩ := HX.out wp (HR2.out.2.1.trans (HBP.out.mono HR2.out.2.1.size))
                  clear hR KC0
                  go_upto_region 20 with fail
                  go_region_held3 (fun wx => Below wp.heap.size wp wx ∧ wx.cell? ⟨w.heap.size, 0, none⟩ = some (.slice a1 n1 c1) ∧ wx.cell? ⟨w.heap.size, 1, none⟩ = some (.slice a2 n2 c2) ∧ wx.cell? ⟨w.heap.size, 2, none⟩ = some (.slice a3 n3 c3) ∧ wx.cell? ⟨g, k * 5, none⟩ = some (.string kd) ∧ wx.cell? ⟨g, k * 5 + 1, none⟩ = some (.int .i64 ra) ∧ wx.cell? ⟨g, k * 5 + 2, none⟩ = some (.int .i64 rb) ∧ wx.cell? ⟨g, k * 5 + 3, none⟩ = some (.int .i64 rs) ∧ wx.cell? ⟨g, k * 5 + 4, none⟩ = some (.slice aa na ac))
                    ((go_split_ands; first | exact ⟨(Below.refl _ _).drew, p0, p1, p2, e0, e1, e2, e3, e4⟩ | exact ⟨(Below.refl _ _).drew.trans hb8, cell_keep hb8 p0, cell_keep hb8 p1, cell_keep hb8 p2, cell_keep hb8 e0, cell_keep hb8 e1, cell_keep hb8 e2, cell_keep hb8 e3, cell_keep hb8 e4⟩))
                    ((go_at_call 114; refine (KC.out _ ?_).mono ?_; (go_split_ands; assumption); rintro e w8 ⟨rfl, hb8⟩))
                  have HB8 : Hid (Below wq.heap.size wq w8) := HP.out.1.trans (((Below.refl _ _).drew.trans hb8 : Below wp.heap.size wp w8).mono HP.out.1.size)
                  have HDN : Hid ((R = true → pairB P hs a b = true) ∧ (R = false → a = b ∨ ((nonBase P).take (k + 1)).any (fun r => isEdgeB P hs r a b) = false)) := by
                    refine ⟨fun q => ?_, fun q => Or.inr ?_⟩
                    · unfold pairB
                      rw [any_take_yes default _ _ k HRR.out.2 (by rw [← HRR.out.1]; exact q)]
                      simpa using h2
                    · refine any_take_no default _ _ k HRR.out.2 ?_ (by rw [← HRR.out.1]; exact q)
                      rcases HPN.out with q2 | q2
                      · exact absurd q2 h2
                      · exact q2
                  clear hb8 e0 e1 e2 e3 e4 p0 p1 p2 KC
                  go_wp2_with fail
                  go_roundw
                  case rel => exact ⟨k + 1, R, h1, by go_num, rfl, HB8.out, HDN.out⟩
                  case measure => simp [intOf]; omega
                · have HPR : Hid (pairB P hs a b = D) := hpair
                  clear hpair
                  have hbr := HQ.out.1.below HP.out.1
                  have HW2 : Hid (RowPd w2 wp (.slice oa on oc) (refEdges P hs a ++ rowE P hs a b)) := hbr
                  clear hbr
                  have HAD : Hid (∃ va vn vc w', (Builtin.append_ #[TEdS, TEdS] TEdS #[.slice oa on oc, .slice (some ⟨wp.heap.size, 0, none⟩) 1 1]).run Tryz.prog (wp.alloc (.cells #[.int .i64 (a : Int), .int .i64 (b : Int)] TEd)) = .ok (.slice va vn vc) w' ∧ vn = (refEdges P hs a ++ rowE P hs a b).length + 1 ∧ RowPd w2 w' (.slice va vn vc) ((refEdges P hs a ++ rowE P hs a b) ++ [((a : Int), (b : Int))]) ∧ Below w2.heap.size wp w') := HW2.out.add HBP.out (by rw [← HQ.out.2.2.1]; exact HQ.out.2.2.2) ((a : Int), (b : Int))
                  rcases hx with hx | ⟨hx, rfl⟩ | ⟨hx, rfl, hab⟩
                  · have hki : ¬ (k : Int) < rl := by omega
                    clear hx
                    cases D with
                    | true =>
                      obtain ⟨va, vn, vc, w9, hrun, hvn, hrow9, hb9⟩ := HAD.out
                      have HR9 : Hid ((Builtin.append_ #[TEdS, TEdS] TEdS #[.slice oa on oc, .slice (some ⟨wp.heap.size, 0, none⟩) 1 1]).run Tryz.prog (wp.alloc (.cells #[.int .i64 (a : Int), .int .i64 (b : Int)] TEd)) = .ok (.slice va vn vc) w9) := hrun
                      have HNX : Hid (RowPd w2 w9 (.slice va vn vc) (refEdges P hs a ++ rowE P hs a (b + 1)) ∧ Below w2.heap.size w2 w9) := by
                        refine ⟨?_, HBP.out.trans hb9⟩
                        rw [rowE_yes P hs a b HPR.out, ← List.append_assoc]
                        exact hrow9
                      clear hrun hvn hrow9 hb9 HAD
                      go_wp2_with (at_builtin; refine Lib.wpList_append_run _ rfl _ _ _ _ rfl _ _ rfl rfl _ _ HR9.out ?_)
                      go_roundw
                      case rel => exact ⟨b + 1, hlb, by go_num, HNX.out⟩
                      case measure => simp [intOf]; omega
                    | false =>
                      have HNX : Hid (RowPd w2 wp (.slice oa on oc) (refEdges P hs a ++ rowE P hs a (b + 1)) ∧ Below w2.heap.size w2 wp) := by
                        refine ⟨?_, HBP.out⟩
                        rw [rowE_no P hs a b HPR.out]
                        exact HW2.out
                      clear HAD
                      go_wp2_with fail
                      go_roundw
                      case rel => exact ⟨b + 1, hlb, by go_num, HNX.out⟩
                      case measure => simp [intOf]; omega
                  · have hki : (k : Int) < rl := by omega
                    clear hx
                    obtain ⟨va, vn, vc, w9, hrun, hvn, hrow9, hb9⟩ := HAD.out
                    have HR9 : Hid ((Builtin.append_ #[TEdS, TEdS] TEdS #[.slice oa on oc, .slice (some ⟨wp.heap.size, 0, none⟩) 1 1]).run Tryz.prog (wp.alloc (.cells #[.int .i64 (a : Int), .int .i64 (b : Int)] TEd)) = .ok (.slice va vn vc) w9) := hrun
                    have HNX : Hid (RowPd w2 w9 (.slice va vn vc) (refEdges P hs a ++ rowE P hs a (b + 1)) ∧ Below w2.heap.size w2 w9) := by
                      refine ⟨?_, HBP.out.trans hb9⟩
                      rw [rowE_yes P hs a b HPR.out, ← List.append_assoc]
                      exact hrow9
                    clear hrun hvn hrow9 hb9 HAD
                    go_wp2_with (at_builtin; refine Lib.wpList_append_run _ rfl _ _ _ _ rfl _ _ rfl rfl _ _ HR9.out ?_)
                    go_roundw
                    case rel => exact ⟨b + 1, hlb, by go_num, HNX.out⟩
                    case measure => simp [intOf]; omega
                  · have hki : (k : Int) < rl := by omega
                    subst hab
                    clear hx
                    have HNX : Hid (RowPd w2 wp (.slice oa on oc) (refEdges P hs a ++ rowE P hs a (a + 1)) ∧ Below w2.heap.size w2 wp) := by
                      refine ⟨?_, HBP.out⟩
                      rw [rowE_no P hs a a HPR.out]
                      exact HW2.out
                    clear HAD
                    go_wp2_with fail
                    go_roundw
                    case rel => exact ⟨a + 1, hlb, by go_num, HNX.out⟩
                    case measure => simp [intOf]; omega
            · have hbn : b = n := by omega
              subst hbn
              have HNX : Hid (RowPd w2 wq (.slice oa on oc) (refEdges P hs (a + 1)) ∧ Below w2.heap.size w2 wq) := by
                refine ⟨?_, hbq⟩
                rw [refEdges_succ, ← HN.out.2.2.2, hon]
                exact hrow
              clear hrow hbq hon
              go_wp2_with fail
              go_roundw
              case rel => exact ⟨a + 1, hla, by go_num, HNX.out⟩
              case measure => simp [intOf]; omega
        · have han : a = n := by omega
          subst han
          have HNX : Hid (EdgeBlk wq t9 (refEdges P hs hs.length) ∧ Below w.heap.size w wq) := by
            have hb2 := (HX.out w2 HR2.out.2.1).2.1
            refine ⟨?_, hb2.trans (hbq.mono hb2.size)⟩
            rw [← HN.out.2.2.2]
            exact hrow.blk
          clear hrow hbq
          go_wp2_with fail
          go_ret
          exact ⟨t9, rfl, HNX.out⟩
end Go.Proofs.YtglonlpfnllocaaGreatDoor

/-
  The document's edges are the program's: plain.
-/
namespace Go.Proofs.YtglonlpfnllocaaGreatDoor
open Go.RowKit Go.Extern.Stop Go.Stop Go.Extern

theorem edgeSet_ref {P : ProgD} {hs : List (List Int)} (hc : checkE P = none) (h : SetsOk P hs) : EdgeSet (foundD P hs) (refEdges P hs hs.length) := ⟨refEdges_up P hs hs.length, refEdges_mem hc h⟩
end Go.Proofs.YtglonlpfnllocaaGreatDoor
