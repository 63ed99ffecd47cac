/-
  Package solve in memory: a rule is obeyed that asks.
-/
import Derived.Test.YtglonlpfnllocaaGreatDoorVSM
import Derived.Deep.RegionHeld3
namespace Go.Proofs.YtglonlpfnllocaaGreatDoor
open Go.RowKit Go.Extern.Stop Go.Stop Go.Extern Go.Maps

/-- What obeying a rule that asks wants. -/
structure AskOk (w : World) (sb : Nat) (fs : List FunD) (m : SolB) (s : SolD) (n : Nat) (r : RuleD) (av : Value) (X : Nat) : Prop where
  size : n = s.has.length
  few : n ≤ 100000
  at_ : askedD r = (X : Int)
  lt : X < s.has.length
  kb : r.kind ≠ kBase ∧ r.kind ≠ kCopy
  arg : ∀ w', (∀ (k : Nat) (o : Obj), w.heap[k]? = some o → ¬ OwnB sb m s k → w'.heap[k]? = some o) → IsInts w' av r.args
  one : ∀ v ∈ ruleCellsV r av, v.oneCell' = true
  rules : (s.rules (X : Int)).length ≤ 1000000
  zs : (setAt s.has (X : Int)).length ≤ 1000
  fp : ∀ i, i < fs.length → (fs.getD i default).params.length ≤ 1000
  args : r.args.length ≤ 1000000
  obj : ∀ o ∈ setAt s.has (X : Int), 0 ≤ o ∧ o ≤ 1000000 ∧ (r.kind = kCall → ¬ o < (n : Int) → (o - n).toNat < fs.length)
  rn : m.rn < maxLen
  kn : m.kn + 1002000000000 + 1002000000 < maxLen
  en : m.en + 1002000 + 1002 < maxLen
  jo : ∀ k, k < (setAt s.has (X : Int)).length → ∀ j, j < (joinD n fs r ((setAt s.has (X : Int)).getD k 0)).length → JoinOk (jK (oK n fs r { s with rules := updF s.rules (X : Int) (s.rules (X : Int) ++ [r]) } (setAt s.has (X : Int)) k) (joinD n fs r ((setAt s.has (X : Int)).getD k 0)) j) ((joinD n fs r ((setAt s.has (X : Int)).getD k 0)).getD j default)
/-- What is so behind a rule. -/
def ObeyPost (w : World) (B sb : Nat) (fs : List FunD) (m : SolB) (s s' : SolD) (w' : World) : Prop :=
  ∃ m', SolM w' B sb fs m' s' ∧ SolStepR w w' sb m m' s s' ∧ m'.kn ≤ m.kn + 1002000000000 ∧ m'.en ≤ m.en + 1002000 ∧ m'.rn ≤ m.rn + 1
set_option maxRecDepth 100000 in
set_option maxHeartbeats 32000000 in
theorem obeyS_ask {w : World} {B sb : Nat} {fs : List FunD} {m : SolB} {s : SolD} (h : SolM w B sb fs m s) (hF : FunsK w sb fs m s) (n : Nat) (r : RuleD) (av : Value) (X : Nat) (hA : AskOk w sb fs m s n r av X) :
    Calls Tryz.prog 28 #[.pointer (some ⟨sb, 0, none⟩), .agg #[.string (S r.kind), .int .i64 r.a, .int .i64 r.b, .int .i64 r.stmt, av]] w fun e w' => e = .returned (.tuple #[]) ∧ ObeyPost w B sb fs m s (s.obey n fs r) w' := by
  obtain ⟨zs, hzs⟩ : ∃ zs, zs = setAt s.has (X : Int) := ⟨_, rfl⟩
  obtain ⟨n0, hn0⟩ : ∃ n0, n0 = zs.length := ⟨_, rfl⟩
  obtain ⟨s1, hs1⟩ : ∃ s1, s1 = ({ s with rules := updF s.rules (X : Int) (s.rules (X : Int) ++ [r]) } : SolD) := ⟨_, rfl⟩
  have ho : s.obey n fs r = oK n fs r s1 zs n0 := by
    unfold SolD.obey
    rw [if_neg hA.kb.1, if_neg hA.kb.2, hA.at_, hn0, oK_all, hs1, hzs]
  rw [ho]
  obtain ⟨kd, hkd⟩ : ∃ kd, kd = S r.kind := ⟨_, rfl⟩
  have hkl : kd.toList = r.kind := by rw [hkd, S_toList]
  have g1 : (kd.toList == [98, 97, 115, 101]) = false := by rw [hkl]; exact beq_eq_false_iff_ne.2 hA.kb.1
  have g2 : (kd.toList == [99, 111, 112, 121]) = false := by rw [hkl]; exact beq_eq_false_iff_ne.2 hA.kb.2
  have hx : okI (X : Int) := by unfold okI; have := hA.lt; have := hA.few; have := hA.size; omega
  obtain ⟨W, hW⟩ : ∃ W, W = w.alloc (ruleBox kd r.a r.b r.stmt av) := ⟨_, rfl⟩
  have hBW : Below w.heap.size w W := by rw [hW]; exact below1 w _
  have HFB : Hid (W.heap[w.heap.size]? = some (ruleBox kd r.a r.b r.stmt av)) := by show _ = _; rw [hW]; exact heap_new w _
  have KA : Hid (Calls Tryz.prog 63 #[.agg #[.string kd, .int .i64 r.a, .int .i64 r.b, .int .i64 r.stmt, av]] W fun e w' => e = .returned (.int .i64 (X : Int)) ∧ Below W.heap.size W w') := by
    have := asked_any r av kd hkl W
    rw [hA.at_] at this
    exact this
  have H : Hid (SolM w B sb fs m s ∧ FunsK w sb fs m s ∧ AskOk w sb fs m s n r av X ∧ Below w.heap.size w W ∧ okI (X : Int) ∧ kd = S r.kind ∧ zs = setAt s.has (X : Int) ∧ n0 = zs.length ∧ s1 = ({ s with rules := updF s.rules (X : Int) (s.rules (X : Int) ++ [r]) } : SolD) ∧ kd.toList = r.kind) := ⟨h, hF, hA, hBW, hx, hkd, hzs, hn0, hs1, hkl⟩
  have c0 : W.cell? ⟨w.heap.size, 0, none⟩ = some (.string kd) := by rw [Lib.cell_of_heap HFB.out]; rfl
  have c1 : W.cell? ⟨w.heap.size, 1, none⟩ = some (.int .i64 r.a) := by rw [Lib.cell_of_heap HFB.out]; rfl
  have c2 : W.cell? ⟨w.heap.size, 2, none⟩ = some (.int .i64 r.b) := by rw [Lib.cell_of_heap HFB.out]; rfl
  have c3 : W.cell? ⟨w.heap.size, 3, none⟩ = some (.int .i64 r.stmt) := by rw [Lib.cell_of_heap HFB.out]; rfl
  have c4 : W.cell? ⟨w.heap.size, 4, none⟩ = some av := by rw [Lib.cell_of_heap HFB.out]; rfl
  obtain ⟨ra, hra⟩ : ∃ z, z = r.a := ⟨_, rfl⟩
  obtain ⟨rb, hrb⟩ : ∃ z, z = r.b := ⟨_, rfl⟩
  obtain ⟨rs, hrs⟩ : ∃ z, z = r.stmt := ⟨_, rfl⟩
  have HRR : Hid (ra = r.a ∧ rb = r.b ∧ rs = r.stmt) := ⟨hra, hrb, hrs⟩
  rw [← hkd, ← hra, ← hrb, ← hrs]
  rw [← hra, ← hrb, ← hrs] at KA hW HFB
  rw [← hra] at c1
  rw [← hrb] at c2
  rw [← hrs] at c3
  obtain ⟨ava, avc, hav⟩ : ∃ a c, av = .slice a r.args.length c := isInts_form (hA.arg w fun _ _ q _ => q)
  subst hav
  obtain ⟨na, hna⟩ : ∃ z, z = r.args.length := ⟨_, rfl⟩
  rw [← hna] at KA hW HFB c4 H ⊢
  clear h hF hA hBW hx hkd hzs hn0 hs1 hkl ho hra hrb hrs hna
  go_enter Tryz.func28, Tryz.ntmps28
  go_upto_region 1 with fail
  rw [← hW]
  clear hW
  obtain ⟨bx, hbx⟩ : ∃ b, b = w.heap.size := ⟨_, rfl⟩
  have HBX : Hid (bx = w.heap.size) := hbx
  rw [← hbx] at HFB c0 c1 c2 c3 c4 ⊢
  clear hbx
  go_upto_region 3 with (go_at_call 63; refine KA.out.mono ?_; rintro e w1 ⟨rfl, hb1⟩)
  obtain ⟨oR, hoR⟩ : ∃ o : Obj, o = .cells #[.string kd, .int .i64 ra, .int .i64 rb, .int .i64 rs, .slice ava na avc] TRu := ⟨_, rfl⟩
  have hcells : (ruleCellsV r (.slice ava na avc)).toArray = #[.string kd, .int .i64 ra, .int .i64 rb, .int .i64 rs, .slice ava na avc] := by
    rw [H.out.2.2.2.2.2.1, HRR.out.1, HRR.out.2.1, HRR.out.2.2]
    rfl
  have HB1 : Hid (Below w.heap.size w w1 ∧ w1.heap[bx]? = some (ruleBox kd ra rb rs (.slice ava na avc))) := ⟨H.out.2.2.2.1.trans (hb1.mono H.out.2.2.2.1.size), block_keep hb1 HFB.out⟩
  have hM1 := H.out.1.below HB1.out.1
  have hd := hM1.below (Below.refl w1.heap.size w1).drew
  have hA := H.out.2.2.1
  have hx := H.out.2.2.2.2.1
  obtain ⟨v', w4, w5, hr4, hr5, hM5, hkeep5, hown5, hos5, htape5, hout5, hsz5, hk4, hz4⟩ := hd.addRule (X : Int) r (.slice ava na avc) hx hA.rn hA.rules hA.one (fun w' hk => hA.arg w' fun k o q hn => hk k o (block_keep HB1.out.1.drew q) hn)
  have HM5 : Hid (SolM w5 B sb fs { m with rn := m.rn + 1, rv := updF m.rv (X : Int) v', ra := updF m.ra (X : Int) (m.ra (X : Int) ++ [.slice ava na avc]) } s1 ∧ SolStepR w w5 sb m { m with rn := m.rn + 1, rv := updF m.rv (X : Int) v', ra := updF m.ra (X : Int) (m.ra (X : Int) ++ [.slice ava na avc]) } s s1 ∧ w5.heap[bx]? = some (ruleBox kd ra rb rs (.slice ava na avc)) ∧ ¬ OwnB sb { m with rn := m.rn + 1, rv := updF m.rv (X : Int) v', ra := updF m.ra (X : Int) (m.ra (X : Int) ++ [.slice ava na avc]) } s1 bx) := by
    show _ ∧ _ ∧ _ ∧ _
    have hno : ¬ OwnB sb m s bx := fun q => by
      have h1 := H.out.1.own_lt bx q
      rw [HBX.out] at h1
      exact Nat.lt_irrefl _ h1
    rw [H.out.2.2.2.2.2.2.2.2.1]
    refine ⟨hM5, (SolStep.refl HB1.out.1 sb m s).toR.trans ⟨hkeep5, hown5, hos5, htape5, hout5, hsz5, rfl, rfl, rfl⟩, hkeep5 bx _ HB1.out.2 hno, fun q => ?_⟩
    rcases hown5 bx q with q | q
    · exact hno q
    · exact Nat.lt_irrefl _ (Nat.lt_of_lt_of_le (Array.getElem?_eq_some_iff.1 HB1.out.2).1 q)
  have hrow := hM1.rrowV (X : Int)
  have t7 : w1.cell? ⟨sb, 7, none⟩ = some (.map (some m.rb)) := by rw [Lib.cell_of_heap hM1.blk]; rfl
  have t7a : (w1.alloc oR).cell? ⟨sb, 7, none⟩ = some (.map (some m.rb)) := cell_keep (below1 _ _) t7
  have hsb4 := hk4 _ _ hd.blk (own_ne (hd.rrowV (X : Int)) hd.blk (by decide))
  have t7w : w4.cell? ⟨sb, 7, none⟩ = some (.map (some m.rb)) := by rw [Lib.cell_of_heap hsb4]; rfl
  have hlk := hM1.ruleLook (X : Int) hx
  have hlk1 := hd.ruleLook (X : Int) hx
  have hlk2 := (hd.below (below1 w1.drew oR)).ruleLook (X : Int) hx
  have hlk3 : (Instr.lookup 67 (.map (some m.rb)) (.int .i64 (X : Int)) false).run Tryz.prog (w1.alloc oR).drew = .ok (rowV s.rules m.rv (X : Int)) (w1.alloc oR).drew := hlk2
  obtain ⟨fa, fc, hrf⟩ := owns_form hrow
  obtain ⟨fn, hfn⟩ : ∃ rn, rn = (s.rules (X : Int)).length := ⟨_, rfl⟩
  rw [← hfn] at hrf
  rw [hrf] at hlk hlk1 hlk2 hlk3 hr4
  rw [hcells] at hr4
  have HR4 : Hid ((Builtin.append_ #[61, 61] 61 #[.slice fa fn fc, .slice (some ⟨w1.heap.size, 0, none⟩) 1 1]).run Tryz.prog (w1.drew.alloc (.cells #[.string kd, .int .i64 ra, .int .i64 rb, .int .i64 rs, .slice ava na avc] TRu)) = .ok v' w4) := hr4
  subst hoR
  replace c0 := cell_keep hb1 c0
  replace c1 := cell_keep hb1 c1
  replace c2 := cell_keep hb1 c2
  replace c3 := cell_keep hb1 c3
  replace c4 := cell_keep hb1 c4
  obtain ⟨rmb, hrmb⟩ : ∃ eb, eb = m.rb := ⟨_, rfl⟩
  rw [← hrmb] at t7 t7a t7w hlk hlk1 hlk2 hlk3 hr5
  clear hrmb hrf hfn hcells hM1 hd hA hx hM5 hkeep5 hown5 hos5 htape5 hout5 hsz5 hk4 hz4 hrow hsb4 hr4 hb1 KA
  go_cut [24] (fun s24 wx => wx = w5)
  case first =>
    go_region_law (refine step_append_run rfl (.tmp 21) (.tmp 23) _ _ rfl _ _ rfl rfl _ _ HR4.out ?_)
    all_goals (go_wp2_with fail; go_meet; rfl)
  case rest =>
  obtain rfl := hcut
  clear t7 t7a t7w hlk hlk1 hlk2 hlk3 hr5 c0 c1 c2 c3 c4 HR4
  have hA := H.out.2.2.1
  have hM := HM5.out.1
  have t3 : wc.cell? ⟨sb, 3, none⟩ = some (.slice (some ⟨m.g, 0, none⟩) s.has.length m.hc) := by
    have := hM.blk
    rw [H.out.2.2.2.2.2.2.2.2.1] at this
    rw [Lib.cell_of_heap this]; rfl
  have hs1h : s1.has = s.has := by rw [H.out.2.2.2.2.2.2.2.2.1]
  have hXl : X < s1.has.length := by rw [hs1h]; exact hA.lt
  obtain ⟨ba, bc, hbf⟩ := hM.has.form X hXl
  have tx := hM.has.cell X hXl
  have hgx : s1.has.getD X [] = zs := by
    rw [hs1h, H.out.2.2.2.2.2.2.1]
    unfold setAt
    rw [Int.toNat_natCast]
  have hbf' : m.us.getD X .nilIface = .slice ba n0 bc := by
    rw [H.out.2.2.2.2.2.2.2.1, ← hgx]
    exact hbf
  have tx' : wc.cell? ⟨m.g, X, none⟩ = some (.slice ba n0 bc) := by rw [← hbf']; exact tx
  have HUS : Hid (m.us.getD X .nilIface = .slice ba n0 bc) := hbf'
  have hXn : (X : Int) < n := by have := hA.lt; have := hA.size; omega
  rw [← hA.size] at t3
  obtain ⟨mg, hmg⟩ : ∃ mg, mg = m.g := ⟨_, rfl⟩
  obtain ⟨mc, hmc⟩ : ∃ mc, mc = m.hc := ⟨_, rfl⟩
  have HMG : Hid (mg = m.g ∧ mc = m.hc) := ⟨hmg, hmc⟩
  rw [← hmg] at t3 tx'
  rw [← hmc] at t3
  have hn0b : n0 ≤ 1000 := by rw [H.out.2.2.2.2.2.2.2.1, H.out.2.2.2.2.2.2.1]; exact hA.zs
  clear hM hbf hbf' tx hgx hs1h hXl hmg hmc hA
  go_wp2_with fail
  clear t3 tx'
  go_loopw [33] (fun t wr => ∃ k : Nat, k ≤ n0 ∧ t = .int .i64 k ∧ ∃ m', SolM wr B sb fs m' (oK n fs r s1 zs k) ∧ SolStep wc wr sb { m with rn := m.rn + 1, rv := updF m.rv (X : Int) v', ra := updF m.ra (X : Int) (m.ra (X : Int) ++ [.slice ava na avc]) } m' s1 (oK n fs r s1 zs k) ∧ m'.kn ≤ m.kn + k * 1002000000 ∧ m'.en ≤ m.en + k * 1002 ∧ m'.rn = m.rn + 1) (fun t _ => (n0 - intOf t).toNat)
  case atStart => exact ⟨0, Nat.zero_le _, rfl, _, HM5.out.1, SolStep.refl (Below.refl _ _) _ _ _, Nat.le_add_right _ _, Nat.le_add_right _ _, rfl⟩
  case round =>
    obtain ⟨k, hk, rfl, m1, hM, hS, hkn, hen, hrn⟩ := hrel
    by_cases hlt : k < n0
    · have hA := H.out.2.2.1
      have hs1 := H.out.2.2.2.2.2.2.2.2.1
      have hzse := H.out.2.2.2.2.2.2.1
      have hn0e := H.out.2.2.2.2.2.2.2.1
      have hoh : (oK n fs r s1 zs k).has = s.has ∧ (oK n fs r s1 zs k).rules = s1.rules := by
        unfold oK
        obtain ⟨q1, q2⟩ := joins_has ((zs.take k).flatMap (joinD n fs r)) s1
        exact ⟨by rw [q1, hs1], q2⟩
      have hXl : X < (oK n fs r s1 zs k).has.length := by rw [hoh.1]; exact hA.lt
      have hbx := hS.keep bx _ HM5.out.2.2.1 HM5.out.2.2.2
      have hus : m1.us.getD X .nilIface = .slice ba n0 bc := by rw [hS.at_.2.2.2.2.1]; exact HUS.out
      have hrow := hM.has.own X hXl
      have hgx : (oK n fs r s1 zs k).has.getD X [] = zs := by
        rw [hoh.1, hzse]
        unfold setAt
        rw [Int.toNat_natCast]
      rw [hus, hgx] at hrow
      obtain ⟨bq, oq, hba, ez⟩ := isInts_at (isCap_of_owns hrow).1 k (by rw [← hn0e]; exact hlt)
      subst hba
      obtain ⟨z, hz⟩ : ∃ z, z = zs.getD k 0 := ⟨_, rfl⟩
      rw [← hz] at ez
      have hki : (k : Int) < n0 := by omega
      obtain ⟨fb, ffc, pv, hv2, -⟩ := H.out.2.1
      have hv2m : m1.v2 = .slice fb fs.length ffc := by rw [hS.at_.2.1]; exact hv2
      have hFK : FunsK wr sb fs m1 (oK n fs r s1 zs k) := H.out.2.1.step (HM5.out.2.1.trans hS.toR)
      have t3 : wr.cell? ⟨sb, 3, none⟩ = some (.slice (some ⟨mg, 0, none⟩) n mc) := by
        have := hM.blk
        rw [hS.at_.2.2.2.1, hS.at_.2.2.2.2.2.1, hoh.1] at this
        rw [Lib.cell_of_heap this, HMG.out.1, HMG.out.2, ← H.out.2.2.1.size]; rfl
      have t1 : wr.cell? ⟨sb, 1, none⟩ = some (.slice fb fs.length ffc) := by rw [← hv2m, Lib.cell_of_heap hM.blk]; rfl
      have c0 : wr.cell? ⟨bx, 0, none⟩ = some (.string kd) := by rw [Lib.cell_of_heap hbx]; rfl
      have c1 : wr.cell? ⟨bx, 1, none⟩ = some (.int .i64 ra) := by rw [Lib.cell_of_heap hbx]; rfl
      have c2 : wr.cell? ⟨bx, 2, none⟩ = some (.int .i64 rb) := by rw [Lib.cell_of_heap hbx]; rfl
      have c3 : wr.cell? ⟨bx, 3, none⟩ = some (.int .i64 rs) := by rw [Lib.cell_of_heap hbx]; rfl
      have c4 : wr.cell? ⟨bx, 4, none⟩ = some (.slice ava na avc) := by rw [Lib.cell_of_heap hbx]; rfl
      have hkz : k < zs.length := by rw [← hn0e]; exact hlt
      have hzo := hA.obj z (by rw [← hzse, hz]; simp [List.getD, hkz])
      have hjo := hA.jo k (by rw [← hzse, ← hn0e]; exact hlt)
      rw [← hzse, ← hz, ← hs1] at hjo
      have hnext := oK_next n fs r s1 zs k (by rw [← hn0e]; exact hlt)
      rw [← hz] at hnext
      have hlen := joinD_lenS n fs r z hA.fp
      have KJ : Hid (∀ wx, Below wr.heap.size wr wx → Calls Tryz.prog 64 #[.agg #[.string kd, .int .i64 ra, .int .i64 rb, .int .i64 rs, .slice ava na avc], .int .i64 (n : Int), .slice fb fs.length ffc, .int .i64 z, joinSV sb] wx fun e w' => e = .returned (.tuple #[]) ∧ JoinsPost wr B sb fs m1 (oK n fs r s1 zs k) (oK n fs r s1 zs (k + 1)) (joinD n fs r z).length w' ∧ w'.cell? ⟨sb, 3, none⟩ = some (.slice (some ⟨mg, 0, none⟩) n mc) ∧ w'.cell? ⟨sb, 1, none⟩ = some (.slice fb fs.length ffc) ∧ w'.cell? ⟨bx, 0, none⟩ = some (.string kd) ∧ w'.cell? ⟨bx, 1, none⟩ = some (.int .i64 ra) ∧ w'.cell? ⟨bx, 2, none⟩ = some (.int .i64 rb) ∧ w'.cell? ⟨bx, 3, none⟩ = some (.int .i64 rs) ∧ w'.cell? ⟨bx, 4, none⟩ = some (.slice ava na avc)) := fun wx hb => by
        have hMx := hM.below hb
        have hFx := hFK.step (SolStep.refl hb sb m1 (oK n fs r s1 zs k)).toR
        have harg : ∀ m' s' wy, SolStep wx wy sb m1 m' (oK n fs r s1 zs k) s' → IsInts wy (.slice ava na avc) r.args := fun m' s' wy hs => by
          have hrl : (oK n fs r s1 zs k).rules (X : Int) = s.rules (X : Int) ++ [r] := by rw [hoh.2, hs1]; exact updF_same _ _ _
          have hra : m1.ra (X : Int) = m.ra (X : Int) ++ [.slice ava na avc] := by rw [hS.at_.2.2.2.2.2.2.2.1]; exact updF_same _ _ _
          have hrlen := H.out.1.rlen (X : Int)
          have := (hMx.ro wy hs.keep).args (X : Int) (s.rules (X : Int)).length (by rw [hrl]; simp)
          rw [hrl, hra] at this
          rw [getD_snoc_last _ _ _ _ rfl, getD_snoc_last _ _ _ _ hrlen.symm] at this
          exact this
        have hj := joinRS_any hMx n m1.v2 (hMx.ro wx (fun _ _ q _ => q)).funs r (.slice ava na avc) (fun m' s' wy hs => ⟨(hMx.ro wy hs.keep).funs, harg m' s' wy hs⟩) kd H.out.2.2.2.2.2.2.2.2.2 z hzo.1 hzo.2.1 (by have := hA.few; omega) hzo.2.2 hA.fp hFx.at hA.args hjo (by have := hA.kn; have := hn0b; omega) (by have := hA.en; omega)
        rw [hv2m, ← HRR.out.1, ← HRR.out.2.1, ← HRR.out.2.2, ← hnext] at hj
        refine hj.mono ?_
        rintro e w' ⟨he, m2, q1, q2, q3, q4, q5⟩
        have hst := (SolStep.refl hb sb m1 (oK n fs r s1 zs k)).trans q2
        have hb2 := hst.keep bx _ hbx (fun q => by
          rcases hS.own bx q with q | q
          · exact HM5.out.2.2.2 q
          · exact Nat.lt_irrefl _ (Nat.lt_of_lt_of_le (Array.getElem?_eq_some_iff.1 HM5.out.2.2.1).1 q))
        have hblk := q1.blk
        have hoh2 : (oK n fs r s1 zs (k + 1)).has = s.has := by
          unfold oK
          rw [(joins_has _ _).1, hs1]
        rw [hst.at_.2.2.2.1, hst.at_.2.2.2.2.2.1, hS.at_.2.2.2.1, hS.at_.2.2.2.2.2.1, hst.at_.2.1, hS.at_.2.1, hoh2] at hblk
        refine ⟨he, ⟨m2, q1, hst, q3, q4, q5⟩, ?_, ?_, ?_, ?_, ?_, ?_, ?_⟩
        · rw [Lib.cell_of_heap hblk, HMG.out.1, HMG.out.2, ← H.out.2.2.1.size]; rfl
        · rw [Lib.cell_of_heap hblk]; show some m.v2 = _; rw [hv2]
        · rw [Lib.cell_of_heap hb2]; rfl
        · rw [Lib.cell_of_heap hb2]; rfl
        · rw [Lib.cell_of_heap hb2]; rfl
        · rw [Lib.cell_of_heap hb2]; rfl
        · rw [Lib.cell_of_heap hb2]; rfl
      have HR : Hid (SolStep wc wr sb { m with rn := m.rn + 1, rv := updF m.rv (X : Int) v', ra := updF m.ra (X : Int) (m.ra (X : Int) ++ [.slice ava na avc]) } m1 s1 (oK n fs r s1 zs k) ∧ m1.kn ≤ m.kn + k * 1002000000 ∧ m1.en ≤ m.en + k * 1002 ∧ m1.rn = m.rn + 1 ∧ (joinD n fs r z).length ≤ 1001) := ⟨hS, hkn, hen, hrn, hlen⟩
      have hbr : Below wr.heap.size wr wr := Below.refl _ _
      clear hA hs1 hzse hn0e hoh hXl hbx hus hrow hgx hz hv2 hv2m hFK hzo hkz hjo hnext hlen hM hS hkn hen hrn
      go_upto_region 7 with fail
      go_region_held3 (fun wx => wx.cell? ⟨sb, 3, none⟩ = some (.slice (some ⟨mg, 0, none⟩) n mc) ∧ wx.cell? ⟨sb, 1, none⟩ = some (.slice fb fs.length ffc) ∧ wx.cell? ⟨bx, 0, none⟩ = some (.string kd) ∧ wx.cell? ⟨bx, 1, none⟩ = some (.int .i64 ra) ∧ wx.cell? ⟨bx, 2, none⟩ = some (.int .i64 rb) ∧ wx.cell? ⟨bx, 3, none⟩ = some (.int .i64 rs) ∧ wx.cell? ⟨bx, 4, none⟩ = some (.slice ava na avc))
        ((go_split_ands; first
          | (with_reducible exact ⟨t3, t1, c0, c1, c2, c3, c4⟩)
          | (exact ⟨t3, t1, c0, c1, c2, c3, c4⟩)
          | (refine ⟨?_, ?_, ?_, ?_, ?_, ?_, ?_⟩ <;> assumption)))
        ((go_at_call 64; refine (KJ.out _ ?_).mono ?_; (first | exact hbr | exact hbr.drew); rintro e w2 ⟨rfl, ⟨m2, q1, q2, q3, q4, q5⟩, hcl⟩))
      all_goals
        have HN2 : Hid (SolM w2 B sb fs m2 (oK n fs r s1 zs (k + 1)) ∧ SolStep wc w2 sb { m with rn := m.rn + 1, rv := updF m.rv (X : Int) v', ra := updF m.ra (X : Int) (m.ra (X : Int) ++ [.slice ava na avc]) } m2 s1 (oK n fs r s1 zs (k + 1)) ∧ m2.kn ≤ m.kn + (k + 1) * 1002000000 ∧ m2.en ≤ m.en + (k + 1) * 1002 ∧ m2.rn = m.rn + 1) := by
          obtain ⟨u1, u2, u3, u4, u5⟩ := HR.out
          have h1 : (joinD n fs r z).length * 1000000 ≤ 1001 * 1000000 := Nat.mul_le_mul u5 (Nat.le_refl _)
          exact ⟨q1, u1.trans q2, by omega, by omega, by omega⟩
        clear q1 q2 q3 q4 q5 t3 t1 c0 c1 c2 c3 c4 ez
        go_wp2_with fail
        go_roundw
        case rel => exact ⟨k + 1, hlt, by go_num, m2, HN2.out⟩
        case measure => simp [intOf]; omega
    · have hkn0 : k = n0 := by omega
      subst hkn0
      have HP : Hid (ObeyPost w B sb fs m s (oK n fs r s1 zs k) wr) := ⟨m1, hM, HM5.out.2.1.trans hS.toR, by omega, by omega, by omega⟩
      clear hM hS hkn hen hrn
      go_wp2_with fail
      refine bodyPost_end (results_none rfl _ _ _) rfl ?_
      exact ⟨rfl, HP.out⟩
end Go.Proofs.YtglonlpfnllocaaGreatDoor
