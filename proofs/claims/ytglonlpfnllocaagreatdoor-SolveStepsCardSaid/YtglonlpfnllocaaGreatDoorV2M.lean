/-
  Package solve in memory: nodes are joined, the walk.
-/
import Derived.Test.YtglonlpfnllocaaGreatDoorV1M
namespace Go.Proofs.YtglonlpfnllocaaGreatDoor
open Go.RowKit Go.Extern.Stop Go.Stop Go.Extern Go.Maps

set_option maxRecDepth 100000 in
set_option maxHeartbeats 8000000 in
/-- Nothing to join: one node, or an edge that is there. -/
theorem joinS_old {w : World} {B sb : Nat} {fs : List FunD} {m : SolB} {s : SolD} (h : SolM w B sb fs m s) (x y : Int) (hx : okI x) (hl : (s.edges x).length ≤ 1000000) (ho : x = y ∨ y ∈ s.edges x) :
    Calls Tryz.prog 62 #[.pointer (some ⟨sb, 0, none⟩), .int .i64 x, .int .i64 y] w fun e w' => JoinSPost w B sb fs m s (x, y) e w' := by
  have hsame : s.join (x, y) = s := by unfold SolD.join; exact if_pos ho
  have HN : Hid (JoinSPost w B sb fs m s (x, y) (.returned (.tuple #[])) w) := ⟨rfl, m, by rw [hsame]; exact h, by rw [hsame]; exact SolStep.refl (Below.refl _ w) sb m s, Nat.le_add_right _ _, Nat.le_succ _, rfl⟩
  have t6 : w.cell? ⟨sb, 6, none⟩ = some (.map (some m.eb)) := by rw [Lib.cell_of_heap h.blk]; rfl
  have hlk := h.edgeLook x hx
  obtain ⟨rv, hrv⟩ : ∃ rv, rv = rowV s.edges m.ev x := ⟨_, rfl⟩
  have HC : Hid (Calls Tryz.prog 89 #[rv, .int .i64 y] w fun e w' => e = .returned (.bool ((s.edges x).contains y)) ∧ w' = w) := by rw [hrv]; exact containsI_any _ _ _ _ hl (isCap_of_owns (h.row x)).1
  rw [← hrv] at hlk
  obtain ⟨cb, hcb⟩ : ∃ cb, cb = (s.edges x).contains y := ⟨_, rfl⟩
  rw [← hcb] at HC
  have hcb2 : ¬ x = y → cb = true := fun hne => by
    rw [hcb]
    simpa using ho.resolve_left hne
  clear hcb hrv hsame h hl hx ho
  obtain ⟨eb, heb⟩ : ∃ eb, eb = m.eb := ⟨_, rfl⟩
  rw [← heb] at t6 hlk
  clear heb
  by_cases hxy : x = y
  · subst hxy
    clear hcb2
    go_enter Tryz.func62, Tryz.ntmps62
    go_wp2_with fail
    refine bodyPost_end (results_none rfl _ _ _) rfl ?_
    exact HN.out
  · have := hcb2 hxy
    subst this
    clear hcb2
    go_enter Tryz.func62, Tryz.ntmps62
    go_wp2_with (go_at_call 89; refine HC.out.mono ?_; rintro e w' ⟨rfl, rfl⟩)
    refine bodyPost_end (results_none rfl _ _ _) rfl ?_
    exact HN.out
end Go.Proofs.YtglonlpfnllocaaGreatDoor

/-
  Package solve in memory: nodes are joined: a new edge, the walk.
-/
namespace Go.Proofs.YtglonlpfnllocaaGreatDoor
open Go.RowKit Go.Extern.Stop Go.Stop Go.Extern Go.Maps

set_option maxRecDepth 100000 in
set_option maxHeartbeats 16000000 in
theorem joinS_new {w : World} {B sb : Nat} {fs : List FunD} {m : SolB} {s : SolD} (h : SolM w B sb fs m s) (X : Nat) (y : Int) (hX : X < s.has.length) (hX2 : X ≤ 1000000) (hy : okI y) (hl : (s.edges (X : Int)).length ≤ 1000000) (hno : ¬ ((X : Int) = y ∨ y ∈ s.edges (X : Int)))
    (hzl : (setAt s.has (X : Int)).length ≤ 1000000) (hkn : m.kn + (setAt s.has (X : Int)).length < maxLen) (hen : m.en < maxLen) (hob : ∀ o ∈ setAt s.has (X : Int), okI o) (hdue : ∀ k, k ≤ (setAt s.has (X : Int)).length → (joinK s ((X : Int), y) k).due.length ≤ 1000000) :
    Calls Tryz.prog 62 #[.pointer (some ⟨sb, 0, none⟩), .int .i64 (X : Int), .int .i64 y] w fun e w' => JoinSPost w B sb fs m s ((X : Int), y) e w' := by
  have hx : okI (X : Int) := by unfold okI; omega
  obtain ⟨zs, hzs⟩ : ∃ zs, zs = setAt s.has (X : Int) := ⟨_, rfl⟩
  obtain ⟨n0, hn0⟩ : ∃ n0, n0 = zs.length := ⟨_, rfl⟩
  have hnb : n0 ≤ 1000000 := by rw [hn0, hzs]; exact hzl
  have hd := h.below (Below.refl w.heap.size w).drew
  obtain ⟨v', w4, w5, hr4, hr5, hM5, hS5, hk4, hz4⟩ := hd.addEdge (X : Int) y hx hen hl
  have HS5 : Hid (SolStep w w5 sb m { m with en := m.en + 1, ev := updF m.ev (X : Int) v' } s { s with edges := updF s.edges (X : Int) (s.edges (X : Int) ++ [y]) }) := (SolStep.refl (Below.refl w.heap.size w).drew sb m s).trans hS5
  have HM5 : Hid (SolM w5 B sb fs { m with en := m.en + 1, ev := updF m.ev (X : Int) v' } { s with edges := updF s.edges (X : Int) (s.edges (X : Int) ++ [y]) }) := hM5
  have hrow := h.row (X : Int)
  have t6 : w.cell? ⟨sb, 6, none⟩ = some (.map (some m.eb)) := by rw [Lib.cell_of_heap h.blk]; rfl
  have t6a : (w.alloc (.cells #[.int .i64 y] 3)).cell? ⟨sb, 6, none⟩ = some (.map (some m.eb)) := cell_keep (below1 _ _) t6
  have hsb4 := hk4 _ _ hd.blk (own_ne (hd.row (X : Int)) hd.blk (by decide))
  have t6w : w4.cell? ⟨sb, 6, none⟩ = some (.map (some m.eb)) := by rw [Lib.cell_of_heap hsb4]; rfl
  have hlk := h.edgeLook (X : Int) hx
  have hlk1 := hd.edgeLook (X : Int) hx
  have hlk2 := (hd.below (below1 w.drew (.cells #[.int .i64 y] 3))).edgeLook (X : Int) hx
  have hlk3 : (Instr.lookup 66 (.map (some m.eb)) (.int .i64 (X : Int)) false).run Tryz.prog (w.alloc (.cells #[.int .i64 y] 3)).drew = .ok (rowV s.edges m.ev (X : Int)) (w.alloc (.cells #[.int .i64 y] 3)).drew := hlk2
  obtain ⟨ra, rc, hrf⟩ := owns_form hrow
  obtain ⟨rn, hrn⟩ : ∃ rn, rn = (s.edges (X : Int)).length := ⟨_, rfl⟩
  rw [← hrn] at hrf
  have HC : Hid (Calls Tryz.prog 89 #[.slice ra rn rc, .int .i64 y] w fun e w' => e = .returned (.bool false) ∧ w' = w) := by
    have := containsI_any _ _ y w hl (isCap_of_owns hrow).1
    rw [hrf] at this
    have e2 : (s.edges (X : Int)).contains y = false := by
      have : y ∉ s.edges (X : Int) := fun q => hno (Or.inr q)
      simpa using this
    rw [e2] at this
    exact this
  rw [hrf] at hlk hlk1 hlk2 hlk3 hr4
  have hxy : ¬ ((X : Int) = y) := fun q => hno (Or.inl q)
  have HR4 : Hid ((Builtin.append_ #[TSI, TSI] TSI #[.slice ra rn rc, .slice (some ⟨w.heap.size, 0, none⟩) 1 1]).run Tryz.prog (w.drew.alloc (.cells #[.int .i64 y] 3)) = .ok v' w4) := hr4
  have HJ : Hid (joinK s ((X : Int), y) n0 = s.join ((X : Int), y) ∧ (∀ k, k < n0 → joinK s ((X : Int), y) (k + 1) = (joinK s ((X : Int), y) k).await (y, zs.getD k 0)) ∧ (∀ k, k ≤ n0 → (joinK s ((X : Int), y) k).due.length ≤ 1000000) ∧ (∀ k, k < n0 → okI (zs.getD k 0)) ∧ okI y ∧ m.kn + n0 < maxLen ∧ (∀ k, setAt (joinK s ((X : Int), y) k).has (X : Int) = zs) ∧ n0 = zs.length ∧ (∀ k, (joinK s ((X : Int), y) k).has.length = s.has.length) ∧ X < s.has.length ∧ (setAt s.has (X : Int)).length = n0) := by
    rw [hn0, hzs]
    refine ⟨joinK_all s _ hno, fun k hk => joinK_next s _ k hk, hdue, fun k hk => hob _ (getD_memC hk), hy, hkn, fun k => by rw [joinK_has], rfl, fun k => by rw [joinK_has], hX, rfl⟩
  clear hzl h hd hM5 hS5 hk4 hz4 hrow hsb4 hrf hrn hr4 hno hkn hen hob hdue hl hzs hn0 hX hX2 hx hy
  obtain ⟨eb, heb⟩ : ∃ eb, eb = m.eb := ⟨_, rfl⟩
  rw [← heb] at t6 t6a t6w hlk hlk1 hlk2 hlk3 hr5
  clear heb
  go_enter Tryz.func62, Tryz.ntmps62
  go_upto_region 1 with (go_at_call 89; refine HC.out.mono ?_; rintro e w' ⟨rfl, rfl⟩)
  go_cut [24] (fun s24 wx => wx = w5)
  case first =>
    go_region_law (refine step_append_run rfl (.tmp 31) (.tmp 33) _ _ rfl _ _ rfl rfl _ _ HR4.out ?_)
    all_goals (go_wp2_with fail; go_meet; rfl)
  case rest =>
  obtain rfl := hcut
  clear t6 t6a t6w hlk hlk1 hlk2 hlk3 hr5 hxy HC HR4
  have hM := HM5.out
  have t3 : wc.cell? ⟨sb, 3, none⟩ = some (.slice (some ⟨m.g, 0, none⟩) s.has.length m.hc) := by rw [Lib.cell_of_heap hM.blk]; rfl
  obtain ⟨ba, bc, hbf⟩ := hM.has.form X HJ.out.2.2.2.2.2.2.2.2.2.1
  have hsx : s.has.getD X [] = setAt s.has (X : Int) := by unfold setAt; rw [Int.toNat_natCast]
  have tx := hM.has.cell X HJ.out.2.2.2.2.2.2.2.2.2.1
  have hbf' : m.us.getD X .nilIface = .slice ba n0 bc := by
    have : (s.has.getD X []).length = n0 := by rw [hsx]; exact HJ.out.2.2.2.2.2.2.2.2.2.2
    rw [← this]
    exact hbf
  have tx' : wc.cell? ⟨m.g, X, none⟩ = some (.slice ba n0 bc) := by rw [← hbf']; exact tx
  have HUS : Hid (m.us.getD X .nilIface = .slice ba n0 bc) := hbf'
  obtain ⟨nh, hnh⟩ : ∃ nh, nh = s.has.length := ⟨_, rfl⟩
  have hXn : (X : Int) < nh := by have := HJ.out.2.2.2.2.2.2.2.2.2.1; omega
  rw [← hnh] at t3
  obtain ⟨mg, hmg⟩ : ∃ mg, mg = m.g := ⟨_, rfl⟩
  obtain ⟨mc, hmc⟩ : ∃ mc, mc = m.hc := ⟨_, rfl⟩
  rw [← hmg] at t3 tx'
  rw [← hmc] at t3
  clear hM hbf hbf' tx hsx hnh hmg hmc
  go_wp2_with fail
  clear t3 tx' hXn
  go_loopw [43] (fun t wr => ∃ k : Nat, k ≤ n0 ∧ t = .int .i64 k ∧ ∃ m', SolM wr B sb fs m' (joinK s ((X : Int), y) k) ∧ SolStep w' wr sb m m' s (joinK s ((X : Int), y) k) ∧ m'.kn = m.kn + k ∧ m'.en = m.en + 1 ∧ m'.rn = m.rn) (fun t _ => (n0 - intOf t).toNat)
  case atStart => exact ⟨0, Nat.zero_le _, rfl, _, HM5.out, HS5.out, rfl, rfl, rfl⟩
  case round =>
    obtain ⟨k, hk, rfl, m1, hM, hS, hkn, hen, hrn⟩ := hrel
    by_cases hlt : k < n0
    · have hus : m1.us.getD X .nilIface = .slice ba n0 bc := by rw [hS.at_.2.2.2.2.1]; exact HUS.out
      have hXk : X < (joinK s ((X : Int), y) k).has.length := by rw [HJ.out.2.2.2.2.2.2.2.2.1 k]; exact HJ.out.2.2.2.2.2.2.2.2.2.1
      have hrow := hM.has.own X hXk
      have hzs : (joinK s ((X : Int), y) k).has.getD X [] = zs := by
        have := HJ.out.2.2.2.2.2.2.1 k
        unfold setAt at this
        rw [Int.toNat_natCast] at this
        exact this
      rw [hus, hzs] at hrow
      have hin := (isCap_of_owns hrow).1
      have hlen := HJ.out.2.2.2.2.2.2.2.1
      rcases hin with ⟨h0, -⟩ | ⟨-, b, o, c, hbe, hcc⟩
      · rw [hlen, h0] at hlt
        exact absurd hlt (Nat.not_lt_zero _)
      have e1 := hcc k (by rw [← hlen]; exact hlt)
      injection hbe with hbe1 hbe2 hbe3
      subst hbe1
      have hki : (k : Int) < n0 := by omega
      have KA := hM.awaitC (y, zs.getD k 0) ⟨HJ.out.2.2.2.2.1, HJ.out.2.2.2.1 k hlt⟩ (by rw [hkn]; have := HJ.out.2.2.2.2.2.1; omega) (HJ.out.2.2.1 k hk)
      rw [← HJ.out.2.1 k hlt] at KA
      obtain ⟨z, hz⟩ : ∃ z, z = zs.getD k 0 := ⟨_, rfl⟩
      rw [← hz] at KA e1
      have HKA : Hid _ := KA
      have HS : Hid (SolStep w' wr sb m m1 s (joinK s ((X : Int), y) k) ∧ m1.kn = m.kn + k ∧ m1.en = m.en + 1 ∧ m1.rn = m.rn) := ⟨hS, hkn, hen, hrn⟩
      clear KA hz hbe2 hbe3 hcc hlen hrow hzs hXk hus hM hS hkn hen hrn
      go_wp2_with (go_at_call 61; refine Calls.mono HKA.out ?_; rintro e w2 ⟨rfl, m2, hM2, hS2, q1, q2, q3, -⟩)
      go_roundw
      case rel => exact ⟨k + 1, hlt, by go_num, m2, hM2, HS.out.1.trans hS2, by rw [q1, HS.out.2.1]; rfl, by rw [q2, HS.out.2.2.1], by rw [q3, HS.out.2.2.2]⟩
      case measure => simp [intOf]; omega
    · have hkn0 : k = n0 := by omega
      subst hkn0
      rw [HJ.out.1] at hM hS
      have HP : Hid (JoinSPost w' B sb fs m s ((X : Int), y) (.returned (.tuple #[])) wr) := ⟨rfl, m1, hM, hS, by rw [hkn, HJ.out.2.2.2.2.2.2.2.2.2.2]; exact Nat.le_refl _, by rw [hen]; exact Nat.le_refl _, hrn⟩
      clear hM hS hkn hen hrn
      go_wp2_with fail
      refine bodyPost_end (results_none rfl _ _ _) rfl ?_
      exact HP.out
end Go.Proofs.YtglonlpfnllocaaGreatDoor

/-
  Package solve in memory: nodes are joined, whatever they are; one after another.
-/
namespace Go.Proofs.YtglonlpfnllocaaGreatDoor
open Go.RowKit Go.Extern.Stop Go.Stop Go.Extern Go.Maps

/-- What a join wants of the solver's state. -/
structure JoinOk (s : SolD) (p : Pair) : Prop where
  a : 0 ≤ p.1 ∧ p.1 < (s.has.length : Int)
  b : 0 ≤ p.2 ∧ p.2 < (s.has.length : Int)
  few : s.has.length ≤ 1000000
  edges : (s.edges p.1).length ≤ 1000000
  row : (setAt s.has p.1).length ≤ 1000000
  obj : ∀ o ∈ setAt s.has p.1, okI o
  due : ¬ (p.1 = p.2 ∨ p.2 ∈ s.edges p.1) → ∀ k, k ≤ (setAt s.has p.1).length → (joinK s p k).due.length ≤ 1000000
/-- So many joins, as one step. -/
def JoinsPost (w : World) (B sb : Nat) (fs : List FunD) (m : SolB) (s s' : SolD) (n : Nat) (w' : World) : Prop :=
  ∃ m', SolM w' B sb fs m' s' ∧ SolStep w w' sb m m' s s' ∧ m'.kn ≤ m.kn + n * 1000000 ∧ m'.en ≤ m.en + n ∧ m'.rn = m.rn
theorem JoinsPost.none {w : World} {B sb : Nat} {fs : List FunD} {m : SolB} {s : SolD} (h : SolM w B sb fs m s) {w' : World} (hb : Below w.heap.size w w') : JoinsPost w B sb fs m s s 0 w' :=
  ⟨m, h.below hb, SolStep.refl hb sb m s, Nat.le_add_right _ _, Nat.le_add_right _ _, rfl⟩
theorem joinS_any {w : World} {B sb : Nat} {fs : List FunD} {m : SolB} {s : SolD} (h : SolM w B sb fs m s) (x y : Int) (hj : JoinOk s (x, y)) (hkn : m.kn + 1000000 < maxLen) (hen : m.en < maxLen) :
    Calls Tryz.prog 62 #[.pointer (some ⟨sb, 0, none⟩), .int .i64 x, .int .i64 y] w fun e w' => e = .returned (.tuple #[]) ∧ JoinsPost w B sb fs m s (s.join (x, y)) 1 w' := by
  have ha := hj.a
  have hb := hj.b
  have hf := hj.few
  have hrow := hj.row
  simp only at ha hb hrow
  obtain ⟨X, rfl⟩ : ∃ X : Nat, x = (X : Int) := ⟨x.toNat, by omega⟩
  by_cases ho : (X : Int) = y ∨ y ∈ s.edges (X : Int)
  · refine (joinS_old h (X : Int) y (by unfold okI; omega) hj.edges ho).mono fun e w' hp => ?_
    obtain ⟨he, m', h1, h2, h3, h4, h5⟩ := hp
    exact ⟨he, m', h1, h2, by simp only at h3; omega, h4, h5⟩
  · refine (joinS_new h X y (by omega) (by omega) (by unfold okI; omega) hj.edges ho hrow (by omega) hen hj.obj (hj.due ho)).mono fun e w' hp => ?_
    obtain ⟨he, m', h1, h2, h3, h4, h5⟩ := hp
    exact ⟨he, m', h1, h2, by simp only at h3; omega, h4, h5⟩
theorem JoinsPost.next {w w1 w2 : World} {B sb : Nat} {fs : List FunD} {m : SolB} {s s1 s2 : SolD} {n : Nat} (h : JoinsPost w B sb fs m s s1 n w1) (hn : ∀ m1, SolM w1 B sb fs m1 s1 → m1.kn ≤ m.kn + n * 1000000 → m1.en ≤ m.en + n → JoinsPost w1 B sb fs m1 s1 s2 1 w2) : JoinsPost w B sb fs m s s2 (n + 1) w2 := by
  obtain ⟨m1, h1, h2, h3, h4, h5⟩ := h
  obtain ⟨m2, g1, g2, g3, g4, g5⟩ := hn m1 h1 h3 h4
  exact ⟨m2, g1, h2.trans g2, by omega, by omega, g5.trans h5⟩
def pairsN (n m : Nat) : List Fact := (List.range n).flatMap fun (a : Nat) => (List.range (n + m)).map fun (o : Nat) => (((a : Nat) : Int), ((o : Nat) : Int))
/-- The facts that were known, those that are due, and edges stay few: what a solver that stands well wants. -/
theorem due_few {n m : Nat} {s : SolD} (h : CoreOk n m s) : s.due.length ≤ n * (n + m) := by
  have hnd := h.nodup
  have hin : ∀ f ∈ s.due, f ∈ pairsN n m := fun f hf => by
    obtain ⟨a, o⟩ := f
    obtain ⟨⟨a0, a1⟩, o0, o1⟩ := h.nod a o ((h.kn a o).2 (Or.inr hf))
    refine List.mem_flatMap.2 ⟨a.toNat, List.mem_range.2 (by omega), List.mem_map.2 ⟨o.toNat, List.mem_range.2 (by omega), ?_⟩⟩
    rw [Int.toNat_of_nonneg a0, Int.toNat_of_nonneg o0]
  have key : ∀ (l ys : List Fact), l.Nodup → (∀ f ∈ l, f ∈ ys) → l.length ≤ ys.length := by
    intro l
    induction l with
    | nil => intro ys _ _; exact Nat.zero_le _
    | cons f r ih =>
      intro ys hl hy
      have p := List.nodup_cons.1 hl
      have hf := hy f (List.mem_cons_self ..)
      have := ih (ys.erase f) p.2 fun g hg => (List.mem_erase_of_ne (fun e => p.1 (by rw [← e]; exact hg))).2 (hy g (List.mem_cons_of_mem _ hg))
      rw [List.length_erase_of_mem hf] at this
      have := List.length_pos_of_mem hf
      rw [List.length_cons]
      omega
  have h2 := key s.due _ hnd hin
  have h3 : (pairsN n m).length = n * (n + m) := by
    unfold pairsN
    rw [List.length_flatMap]
    have hs : ∀ (l : List Nat) (c : Nat), (l.map fun _ => c).sum = l.length * c := fun l c => by
      induction l with
      | nil => simp
      | cons a r ih => rw [List.map_cons, List.sum_cons, ih, List.length_cons, Nat.add_mul, Nat.one_mul]; omega
    simp [hs]
  omega
end Go.Proofs.YtglonlpfnllocaaGreatDoor
