/-
  Package solve in memory: a fact is awaited.
-/
import Derived.Test.YtglonlpfnllocaaGreatDoorVAM
import Derived.Test.YtglonlpfnllocaaGreatDoorMFM
import Derived.Test.YtglonlpfnllocaaGreatDoorDKM
import Derived.Deep.RegionHeld3
import Derived.Test.YtglonlpfnllocaaGreatDoorShelf
namespace Go.Proofs.YtglonlpfnllocaaGreatDoor
open Go.RowKit Go.Extern.Stop Go.Stop Go.Extern Go.Maps

theorem step_lookup_run {P : Program} {ops : Array Oper} {o : Oper} {a : Act} {w : World} {K : Act → World → Prop} {Q : Exit → Act → World → Prop} {E : Prop} (hg : o.guard = none) (m x : Operand) (t : TypeId) (c : Bool)
    (ho : o.op = Op.lookup t m x c) (vm vx : Value) (hm : a.eval m = vm) (hx : a.eval x = vx)
    (v : Value) (hr : (Instr.lookup t vm vx c).run P w = .ok v w) (h : K (a.put o.dst v) w) : if Region.wanted o (yielded ops a.tmps) = true then Oper.wp P o a w K Q else E := by
  have hw : Region.wanted o (yielded ops a.tmps) = true := by simp [Region.wanted, hg]
  rw [if_pos hw]
  unfold Oper.wp
  simp [execOp, ho, hm, hx, hr, Result.andThen]
  exact h
theorem step_update_run {P : Program} {ops : Array Oper} {o : Oper} {a : Act} {w : World} {K : Act → World → Prop} {Q : Exit → Act → World → Prop} {E : Prop} (hg : o.guard = none) (m x v : Operand) (t : TypeId)
    (ho : o.op = Op.mapUpdate t m x v) (vm vx vv : Value) (hm : a.eval m = vm) (hx : a.eval x = vx) (hv : a.eval v = vv)
    (w' : World) (hr : (Instr.mapUpdate t vm vx vv).run P w = .ok () w') (h : K (a.put o.dst undef) w') : if Region.wanted o (yielded ops a.tmps) = true then Oper.wp P o a w K Q else E := by
  have hw : Region.wanted o (yielded ops a.tmps) = true := by simp [Region.wanted, hg]
  rw [if_pos hw]
  unfold Oper.wp
  simp [execOp, ho, hm, hx, hv, hr, Result.andThen]
  exact h
/-- One element behind a row of one's own, and what is kept. -/
theorem append_at1 (wr : World) (B : Nat) (u : Value) (n k by_ : Nat) (t e : TypeId) (z : Value) (xs news : List Value) (hu : wr.ownsRow B e k u n xs) (hB : B ≤ wr.heap.size)
    (ht : Tryz.prog.underlying t = some (.slice e)) (hi : (Tryz.prog.info? e).map (fun i => (i.zero, i.size, i.bytes)) = some (some z, k, by_)) (hk2 : by_ ≤ 1000) (hzc : z.cells.size = k)
    (hn : news.length = k) (hone : ∀ x ∈ news, x.oneCell' = true) (hbd : n ≤ 1000000) (ty : TypeId) (hpos : 0 < k) :
    ∃ v' w', (Builtin.append_ #[t, t] ty #[u, .slice (some ⟨wr.heap.size, 0, none⟩) 1 1]).run Tryz.prog (wr.alloc (.cells news.toArray e)) = .ok v' w' ∧
      w'.ownsRow B e k v' (n + 1) (xs ++ news) ∧ Below B wr w' ∧ KeepBut wr w' u.ownBlock ∧ (v'.ownBlock = u.ownBlock ∨ ∀ g', v'.ownBlock = some g' → wr.heap.size ≤ g') := by
  obtain ⟨i0, hi', hz0, hz1, hz2⟩ := info_parts hi
  have hu2 := hu.alloc (.cells news.toArray e)
  have hsz : B ≤ (wr.alloc (.cells news.toArray e)).heap.size := by simp; omega
  have hmul : (n + 1) * by_ ≤ 1000001 * 1000 := Nat.mul_le_mul (by omega) hk2
  obtain ⟨v', w', h1, h2, h3, _, h5⟩ := run_append_own_at (P := Tryz.prog) (w := wr.alloc (.cells news.toArray e)) B t ty e i0 z k by_ ht hi' hz0 hz1 hz2 hzc hpos u n xs hu2 ⟨wr.heap.size, 0, none⟩ 1 1 news (by omega)
    (fun j x hj => by
      rw [Addr.add_lit, Nat.zero_add, World.cell?_alloc_at _ _ _ _ (by simp)]
      simpa using hj) hone (by unfold maxLen; omega) (by omega) hsz
  refine ⟨v', w', h1, h2, ((Below.refl B wr).alloc hB _).trans (below_of_grown h3 hsz hu2 (Nat.le_refl _)), (KeepBut.of_below ((Below.refl _ wr).alloc (Nat.le_refl _) _) _).trans (KeepBut.of_grown h3), ?_⟩
  rcases h5 with q | q
  · exact Or.inl q
  · refine Or.inr fun g' hg => ?_
    rw [q] at hg
    injection hg with hg
    have : (wr.alloc (.cells news.toArray e)).heap.size = wr.heap.size + 1 := by simp
    omega
theorem below_alV {w0 w : World} (h : Below w0.heap.size w0 w) (o : Obj) : Below w0.heap.size w0 (w.alloc o) := h.alloc h.size o
abbrev TSol : TypeId := 70
abbrev TSF : TypeId := 68
theorem Tryz.infoFact : (Tryz.prog.info? 102).map (fun i => (i.zero, i.size, i.bytes)) = some (some (.agg #[.int .i64 0, .int .i64 0]), 2, 16) := by kernel_rfl
abbrev factV (f : Fact) : Value := .agg #[.int .i64 f.1, .int .i64 f.2]
/-- Which facts a map holds. -/
def knownM (kn : Fact → Bool) (g : Fact) : Option Value := if kn g then some (.agg #[]) else none
/-- What is kept beside the solver's block, the facts that are known, and those that are due. -/
def KeepA (w w' : World) (sb kb : Nat) (ob : Option Nat) : Prop := ∀ (k : Nat) (o : Obj), w.heap[k]? = some o → k ≠ sb → k ≠ kb → ob ≠ some k → w'.heap[k]? = some o
def AwaitPost (w : World) (B sb kb : Nat) (cs : Value → Array Value) (dv : Value) (s : SolD) (f : Fact) (n : Nat) (e : Ending) (w' : World) : Prop :=
  e = .returned (.tuple #[]) ∧ ∃ da dc, w'.heap[sb]? = some (.cells (cs (.slice da (s.await f).due.length dc)) TSol (0, 0)) ∧ KMap TFa factLit okF w' kb (n + 1) (knownM (s.await f).known) ∧ w'.ownsRow B TFa 2 (.slice da (s.await f).due.length dc) (s.await f).due.length (ecells (s.await f).due) ∧
    KeepA w w' sb kb dv.ownBlock ∧ w'.os = w.os ∧ w'.tape = w.tape ∧ w'.output = w.output ∧ w.heap.size ≤ w'.heap.size ∧ ((Value.slice da (s.await f).due.length dc).ownBlock = dv.ownBlock ∨ ∀ g', (Value.slice da (s.await f).due.length dc).ownBlock = some g' → w.heap.size ≤ g')
theorem Tryz.zeroUnit (w : World) : (zeroValue 132).run Tryz.prog w = .ok (.agg #[]) w := by kernel_rfl
/-- A fact is looked up. -/
theorem fact_look {w : World} {kb n : Nat} {kn : Fact → Bool} (h : KMap TFa factLit okF w kb n (knownM kn)) (f : Fact) (hf : okF f) :
    (Instr.lookup 65 (.map (some kb)) (factV f) true).run Tryz.prog w = .ok (.tuple #[.agg #[], .bool (kn f)]) w := by
  have := h.look2 factKeys Tryz.underlying65 (Tryz.zeroUnit w) f hf
  rw [this]
  unfold knownM
  cases kn f <;> rfl
theorem known_put (kn : Fact → Bool) (f : Fact) : putM (knownM kn) f (.agg #[]) = knownM (updF kn f true) := by
  funext g
  unfold putM knownM updF
  by_cases e : g = f
  · rw [if_pos e, if_pos e]; rfl
  · rw [if_neg e, if_neg e]

set_option maxRecDepth 100000 in
set_option maxHeartbeats 8000000 in
/-- A fact that is known. -/
theorem await_old {w : World} {B sb kb n : Nat} {c0 c1 c2 c3 c6 c7 : Value} {da : Option Addr} {dc : Nat} {s : SolD} {a b : Int}
    (hs : w.heap[sb]? = some (.cells #[c0, c1, c2, c3, .slice da s.due.length dc, .map (some kb), c6, c7] TSol (0, 0)))
    (hk : KMap TFa factLit okF w kb n (knownM s.known)) (hd : w.ownsRow B TFa 2 (.slice da s.due.length dc) s.due.length (ecells s.due)) (hf : okF (a, b)) (hkn : s.known (a, b) = true) :
    Calls Tryz.prog 61 #[.pointer (some ⟨sb, 0, none⟩), factV (a, b)] w fun e w' => AwaitPost w B sb kb (fun d => #[c0, c1, c2, c3, d, .map (some kb), c6, c7]) (.slice da s.due.length dc) s (a, b) n e w' := by
  have hsame : s.await (a, b) = s := by unfold SolD.await; rw [if_pos hkn]
  have HN : Hid (∀ w', Below w.heap.size w w' → AwaitPost w B sb kb (fun d => #[c0, c1, c2, c3, d, .map (some kb), c6, c7]) (.slice da s.due.length dc) s (a, b) n (.returned (.tuple #[])) w') := fun w' hb => by
    unfold AwaitPost
    rw [hsame]
    exact ⟨rfl, da, dc, block_keep hb hs, (hk.below hb).mono (Nat.le_succ _), owns_below hd hb, fun k o q _ _ _ => block_keep hb q, hb.os, hb.tape, hb.output, hb.size, Or.inl rfl⟩
  obtain ⟨W1, hW1⟩ : ∃ W1, W1 = w.alloc (.cells #[.int .i64 a, .int .i64 b] TFa) := ⟨_, rfl⟩
  have hb1 : Below w.heap.size w W1 := by rw [hW1]; exact (Below.refl _ w).alloc (Nat.le_refl _) _
  have HL : Hid (∀ wx, Below W1.heap.size W1 wx → (Instr.lookup 65 (.map (some kb)) (.agg #[.int .i64 a, .int .i64 b]) true).run Tryz.prog wx = .ok (.tuple #[.agg #[], .bool true]) wx) := fun wx hb => by
    have := fact_look ((hk.below hb1).below hb) (a, b) hf
    rw [hkn] at this
    exact this
  have hs1 : W1.heap[sb]? = some (.cells #[c0, c1, c2, c3, .slice da s.due.length dc, .map (some kb), c6, c7] TSol (0, 0)) := block_keep hb1 hs
  have hf1 : W1.heap[w.heap.size]? = some (.cells #[.int .i64 a, .int .i64 b] TFa (0, 0)) := by rw [hW1]; exact heap_new w _
  have KX : Hid (∀ wx, Below W1.heap.size W1 wx → wx.cell? ⟨sb, 5, none⟩ = some (.map (some kb)) ∧ wx.cell? ⟨w.heap.size, 0, none⟩ = some (.int .i64 a) ∧ wx.cell? ⟨w.heap.size, 1, none⟩ = some (.int .i64 b) ∧ (Instr.lookup 65 (.map (some kb)) (.agg #[.int .i64 a, .int .i64 b]) true).run Tryz.prog wx = .ok (.tuple #[.agg #[], .bool true]) wx) := fun wx hb =>
    ⟨by rw [Lib.cell_of_heap (block_keep hb hs1)]; rfl, by rw [Lib.cell_of_heap (block_keep hb hf1)]; rfl, by rw [Lib.cell_of_heap (block_keep hb hf1)]; rfl, HL.out _ hb⟩
  obtain ⟨t5, u0, u1, -⟩ := KX.out _ (Below.refl _ W1)
  clear hs hk hd hkn hsame hs1 hf1 hb1
  subst hW1
  go_enter Tryz.func61, Tryz.ntmps61
  go_upto_region 1 with fail
  go_region_held3 (fun wx => wx.cell? ⟨sb, 5, none⟩ = some (.map (some kb)) ∧ wx.cell? ⟨w.heap.size, 0, none⟩ = some (.int .i64 a) ∧ wx.cell? ⟨w.heap.size, 1, none⟩ = some (.int .i64 b) ∧ (Instr.lookup 65 (.map (some kb)) (.agg #[.int .i64 a, .int .i64 b]) true).run Tryz.prog wx = .ok (.tuple #[.agg #[], .bool true]) wx)
    ((go_split_ands; with_reducible first | exact KX.out _ (Below.refl _ _).drew | exact KX.out _ (below_alV (Below.refl _ _).drew _)))
    (fail)
  all_goals
    go_wp2_with fail
    refine bodyPost_end (results_none rfl _ _ _) rfl ?_
    exact HN.out _ (by repeat (with_reducible first | exact Below.refl _ _ | refine Below.drew ?_ | refine below_alV ?_ _))
set_option maxRecDepth 100000 in
set_option maxHeartbeats 8000000 in
/-- A fact that is not known yet. -/
theorem await_new {w : World} {B sb kb n : Nat} {c0 c1 c2 c3 c6 c7 : Value} {da : Option Addr} {dc : Nat} {s : SolD} {a b : Int}
    (hs : w.heap[sb]? = some (.cells #[c0, c1, c2, c3, .slice da s.due.length dc, .map (some kb), c6, c7] TSol (0, 0)))
    (hk : KMap TFa factLit okF w kb n (knownM s.known)) (hn : n < maxLen) (hd : w.ownsRow B TFa 2 (.slice da s.due.length dc) s.due.length (ecells s.due)) (hB : B ≤ w.heap.size) (hl : s.due.length ≤ 1000000) (hf : okF (a, b)) (hkn : s.known (a, b) = false) :
    Calls Tryz.prog 61 #[.pointer (some ⟨sb, 0, none⟩), factV (a, b)] w fun e w' => AwaitPost w B sb kb (fun d => #[c0, c1, c2, c3, d, .map (some kb), c6, c7]) (.slice da s.due.length dc) s (a, b) n e w' := by
  obtain ⟨W1, hW1⟩ : ∃ W1, W1 = w.alloc (.cells #[.int .i64 a, .int .i64 b] TFa) := ⟨_, rfl⟩
  have hb1 : Below w.heap.size w W1 := by rw [hW1]; exact (Below.refl _ w).alloc (Nat.le_refl _) _
  have HL : Hid (∀ wx, Below W1.heap.size W1 wx → (Instr.lookup 65 (.map (some kb)) (.agg #[.int .i64 a, .int .i64 b]) true).run Tryz.prog wx = .ok (.tuple #[.agg #[], .bool false]) wx) := fun wx hb => by
    have := fact_look ((hk.below hb1).below hb) (a, b) hf
    rw [hkn] at this
    exact this
  have hs1 : W1.heap[sb]? = some (.cells #[c0, c1, c2, c3, .slice da s.due.length dc, .map (some kb), c6, c7] TSol (0, 0)) := block_keep hb1 hs
  have hf1 : W1.heap[w.heap.size]? = some (.cells #[.int .i64 a, .int .i64 b] TFa (0, 0)) := by rw [hW1]; exact heap_new w _
  have KX : Hid (∀ wx, Below W1.heap.size W1 wx → wx.cell? ⟨sb, 5, none⟩ = some (.map (some kb)) ∧ wx.cell? ⟨w.heap.size, 0, none⟩ = some (.int .i64 a) ∧ wx.cell? ⟨w.heap.size, 1, none⟩ = some (.int .i64 b) ∧ (Instr.lookup 65 (.map (some kb)) (.agg #[.int .i64 a, .int .i64 b]) true).run Tryz.prog wx = .ok (.tuple #[.agg #[], .bool false]) wx) := fun wx hb =>
    ⟨by rw [Lib.cell_of_heap (block_keep hb hs1)]; rfl, by rw [Lib.cell_of_heap (block_keep hb hf1)]; rfl, by rw [Lib.cell_of_heap (block_keep hb hf1)]; rfl, HL.out _ hb⟩
  -- what stands behind the look-up
  have HA : Hid (∀ wx, Below W1.heap.size W1 wx → Below w.heap.size w wx ∧ wx.heap[sb]? = some (.cells #[c0, c1, c2, c3, .slice da s.due.length dc, .map (some kb), c6, c7] TSol (0, 0)) ∧ wx.heap[w.heap.size]? = some (.cells #[.int .i64 a, .int .i64 b] TFa (0, 0)) ∧ KMap TFa factLit okF wx kb n (knownM s.known) ∧ wx.ownsRow B TFa 2 (.slice da s.due.length dc) s.due.length (ecells s.due)) := fun wx hb =>
    ⟨hb1.trans (hb.mono hb1.size), block_keep hb hs1, block_keep hb hf1, (hk.below hb1).below hb, owns_below (owns_below hd hb1) hb⟩
  obtain ⟨t5, u0, u1, -⟩ := KX.out _ (Below.refl _ W1)
  have HF : Hid (n < maxLen ∧ B ≤ w.heap.size ∧ s.due.length ≤ 1000000 ∧ okF (a, b) ∧ s.known (a, b) = false) := ⟨hn, hB, hl, hf, hkn⟩
  have HW : Hid (KMap TFa factLit okF w kb n (knownM s.known) ∧ w.heap[sb]? = some (.cells #[c0, c1, c2, c3, .slice da s.due.length dc, .map (some kb), c6, c7] TSol (0, 0)) ∧ w.ownsRow B TFa 2 (.slice da s.due.length dc) s.due.length (ecells s.due)) := ⟨hk, hs, hd⟩
  clear hs hk hd hkn hs1 hf1 hb1 hn hB hl hf
  subst hW1
  go_enter Tryz.func61, Tryz.ntmps61
  go_upto_region 1 with fail
  go_cut [5] (fun s5 wx => s5 = .bool false ∧ Below (w.alloc (.cells #[.int .i64 a, .int .i64 b] TFa)).heap.size (w.alloc (.cells #[.int .i64 a, .int .i64 b] TFa)) wx)
  · go_region_held3 (fun wx => wx.cell? ⟨sb, 5, none⟩ = some (.map (some kb)) ∧ wx.cell? ⟨w.heap.size, 0, none⟩ = some (.int .i64 a) ∧ wx.cell? ⟨w.heap.size, 1, none⟩ = some (.int .i64 b) ∧ (Instr.lookup 65 (.map (some kb)) (.agg #[.int .i64 a, .int .i64 b]) true).run Tryz.prog wx = .ok (.tuple #[.agg #[], .bool false]) wx)
      ((go_split_ands; with_reducible first | exact KX.out _ (Below.refl _ _).drew | exact KX.out _ (below_alV (Below.refl _ _).drew _)))
      (fail)
    all_goals
      go_wp2_with fail
      go_meet
      refine ⟨rfl, ?_⟩
      repeat (with_reducible first | exact Below.refl _ _ | refine Below.drew ?_ | refine below_alV ?_ _)
  case rest =>
  obtain ⟨rfl, hbc⟩ := hcut
  obtain ⟨hbw, hsb, hfb, hkb, hdb⟩ := HA.out _ hbc
  obtain ⟨w3, hr3, hk3, hg3⟩ := (hkb.keep (w' := wc.drew) rfl).put factKeys Tryz.underlying65 HF.out.1 (a, b) HF.out.2.2.2.1 (.agg #[])
  rw [known_put] at hk3
  obtain ⟨es, clock, hmb⟩ := hkb.isMap
  have hne1 : sb ≠ kb := fun e => by
    rw [← e, hsb] at hmb
    injection hmb with hmb
    cases hmb
  have hne2 : w.heap.size ≠ kb := fun e => by
    rw [← e, hfb] at hmb
    injection hmb with hmb
    cases hmb
  have hdn : (Value.slice da s.due.length dc).ownBlock ≠ some kb := fun q => by
    obtain ⟨_, cs, hh⟩ := ownBlock_lt hdb q
    rw [hmb] at hh
    injection hh with hh
    cases hh
  have hdsb : (Value.slice da s.due.length dc).ownBlock ≠ some sb := fun q => by
    obtain ⟨_, cs, hh⟩ := ownBlock_lt hdb q
    rw [hsb] at hh
    injection hh with hh
    injection hh with _ h3 _
    exact absurd h3 (by decide)
  have hk0 : KeepBut wc w3 (some kb) := KeepBut.of_grown (w := wc.drew) hg3
  have hs3 := hk0 sb _ hsb (fun q => by injection q with q; exact hne1 q.symm)
  have hf3 := hk0 w.heap.size _ hfb (fun q => by injection q with q; exact hne2 q.symm)
  have hd3 := owns_keepBut hdb hk0 (Or.inr hdn)
  have hB3 : B ≤ w3.heap.size := Nat.le_trans HF.out.2.1 (Nat.le_trans hbw.size hg3.size)
  obtain ⟨v4, w4, hr4, ho4, hb4, hkp4, hob4⟩ := append_at1 w3.drew B (.slice da s.due.length dc) s.due.length 2 16 TSF TFa (.agg #[.int .i64 0, .int .i64 0]) (ecells s.due) (pairCells (a, b)) hd3 hB3 Tryz.underlying68 Tryz.infoFact (by decide) rfl rfl (fun v hv => by
    simp only [pairCells, List.mem_cons, List.not_mem_nil, or_false] at hv
    rcases hv with rfl | rfl <;> rfl) HF.out.2.2.1 TSF (by decide)
  rw [← ecells_snoc] at ho4
  obtain ⟨va, vc, rfl⟩ := owns_form ho4
  have hs4 := hkp4 sb _ hs3 hdsb
  have hdf : (Value.slice da s.due.length dc).ownBlock ≠ some w.heap.size := fun q => absurd (ownBlock_lt HW.out.2.2 q).1 (Nat.lt_irrefl _)
  have hf4 := hkp4 w.heap.size _ hf3 hdf
  have hk4 : KMap TFa factLit okF w4 kb (n + 1) (knownM (updF s.known (a, b) true)) := by
    refine hk3.keep ?_
    obtain ⟨es', clock', hmb'⟩ := hk3.isMap
    rw [hmb']
    exact hkp4 kb _ hmb' hdn
  obtain ⟨w5, hw5⟩ : ∃ w5, w5 = w4.setCell ⟨sb, 4, none⟩ (.slice va (s.due.length + 1) vc) := ⟨_, rfl⟩
  have hset := kept_setCell (i := 4) hs4 (.slice va (s.due.length + 1) vc)
  have hother : ∀ k, k ≠ sb → w5.heap[k]? = w4.heap[k]? := fun k hk => by
    rw [hw5]
    simp [World.setCell, Array.getElem?_modify, Ne.symm hk]
  have HN : Hid (AwaitPost w B sb kb (fun d => #[c0, c1, c2, c3, d, .map (some kb), c6, c7]) (.slice da s.due.length dc) s (a, b) n (.returned (.tuple #[])) w5) := by
    have ed : (s.await (a, b)).due = s.due ++ [(a, b)] := by unfold SolD.await; rw [if_neg (by rw [HF.out.2.2.2.2]; decide)]
    have ek : (s.await (a, b)).known = updF s.known (a, b) true := by unfold SolD.await; rw [if_neg (by rw [HF.out.2.2.2.2]; decide)]
    have e1 : (s.await (a, b)).due.length = s.due.length + 1 := by rw [ed]; simp
    have hq : w5.os = w.os ∧ w5.tape = w.tape ∧ w5.output = w.output ∧ w.heap.size ≤ w5.heap.size := by
      rw [hw5]
      refine ⟨hb4.os.trans (hg3.os.trans hbw.os), hb4.tape.trans (hg3.tape.trans hbw.tape), hb4.output.trans (hg3.output.trans hbw.output), ?_⟩
      refine Nat.le_trans hbw.size (Nat.le_trans hg3.size ?_)
      have h1 : w3.heap.size ≤ w4.heap.size := hb4.size
      simpa [World.setCell] using h1
    refine ⟨rfl, va, vc, ?_, ?_, ?_, fun k o q h1 h2 h3 => ?_, hq.1, hq.2.1, hq.2.2.1, hq.2.2.2, ?_⟩
    · rw [e1, hw5, set_block _ _ _ _ _ _ hs4]
      rfl
    · rw [ek]
      exact hk4.keep (hother kb (Ne.symm hne1))
    · rw [e1, ed]
      exact owns_kept ho4 (hw5 ▸ hset) (by decide)
    · rw [hother k h1]
      exact hkp4 k o (hk0 k o (block_keep hbw q) (fun e => by injection e with e; exact h2 e.symm)) h3
    · rw [e1]
      rcases hob4 with q | q
      · exact Or.inl q
      · exact Or.inr fun g' hg => Nat.le_trans (Nat.le_trans hbw.size hg3.size) (q g' hg)
  have K3 : Hid ((wc.drew.cell? ⟨sb, 5, none⟩ = some (.map (some kb)) ∧ wc.drew.cell? ⟨w.heap.size, 0, none⟩ = some (.int .i64 a) ∧ wc.drew.cell? ⟨w.heap.size, 1, none⟩ = some (.int .i64 b)) ∧ (w3.cell? ⟨sb, 5, none⟩ = some (.map (some kb)) ∧ w3.cell? ⟨w.heap.size, 0, none⟩ = some (.int .i64 a) ∧ w3.cell? ⟨w.heap.size, 1, none⟩ = some (.int .i64 b))) :=
    ⟨⟨by rw [Lib.cell_of_heap (w := wc.drew) hsb]; rfl, by rw [Lib.cell_of_heap (w := wc.drew) hfb]; rfl, by rw [Lib.cell_of_heap (w := wc.drew) hfb]; rfl⟩, by rw [Lib.cell_of_heap hs3]; rfl, by rw [Lib.cell_of_heap hf3]; rfl, by rw [Lib.cell_of_heap hf3]; rfl⟩
  have K4 : Hid ((∀ wx, Below w3.heap.size w3 wx → wx.cell? ⟨sb, 4, none⟩ = some (.slice da s.due.length dc) ∧ wx.cell? ⟨w.heap.size, 0, none⟩ = some (.int .i64 a) ∧ wx.cell? ⟨w.heap.size, 1, none⟩ = some (.int .i64 b)) ∧ (w4.cell? ⟨sb, 4, none⟩ = some (.slice da s.due.length dc) ∧ w4.cell? ⟨w.heap.size, 0, none⟩ = some (.int .i64 a) ∧ w4.cell? ⟨w.heap.size, 1, none⟩ = some (.int .i64 b))) :=
    ⟨fun wx hb => ⟨by rw [Lib.cell_of_heap (block_keep hb hs3)]; rfl, by rw [Lib.cell_of_heap (block_keep hb hf3)]; rfl, by rw [Lib.cell_of_heap (block_keep hb hf3)]; rfl⟩, by rw [Lib.cell_of_heap hs4]; rfl, by rw [Lib.cell_of_heap hf4]; rfl, by rw [Lib.cell_of_heap hf4]; rfl⟩
  have hfr4 : w4.frozen? ⟨sb, 4, none⟩ = false := Lib.frozen_of_heap hs4 4
  obtain ⟨nd, hnd⟩ : ∃ nd, nd = s.due.length := ⟨_, rfl⟩
  rw [← hnd] at hr4 hw5 K4
  have HR4 : Hid ((Builtin.append_ #[TSF, TSF] TSF #[.slice da nd dc, .slice (some ⟨w3.heap.size, 0, none⟩) 1 1]).run Tryz.prog (w3.drew.alloc (.cells #[.int .i64 a, .int .i64 b] TFa)) = .ok (.slice va (nd + 1) vc) w4) := hr4
  rw [hw5] at HN
  clear hw5 hr4 hnd hset hother hk4 hf4 hdf hs4 hob4 hkp4 hb4 ho4 hB3 hd3 hf3 hs3 hk0 hdsb hdn hne1 hne2 hmb hg3 hk3 hbw hsb hfb hkb hdb t5 u0 u1 hbc
  go_upto_region 3 with fail
  go_region_held3 (fun wx => wx.cell? ⟨sb, 5, none⟩ = some (.map (some kb)) ∧ wx.cell? ⟨w.heap.size, 0, none⟩ = some (.int .i64 a) ∧ wx.cell? ⟨w.heap.size, 1, none⟩ = some (.int .i64 b))
    ((go_split_ands; with_reducible first | exact K3.out.1 | exact K3.out.2))
    (fail)
  all_goals
    go_upto_region 4 with fail
    obtain ⟨t4, u0, u1⟩ := K4.out.1 _ (Below.refl _ w3)
    have t4d := (K4.out.1 _ (Below.refl _ w3).drew).1
    have t4a := (K4.out.1 _ (below_alV (Below.refl _ w3).drew (.cells #[.int .i64 a, .int .i64 b] TFa))).1
    have t4w := K4.out.2.1
    have t4x := (K4.out.1 _ (below_alV (Below.refl _ w3) (.cells #[.int .i64 a, .int .i64 b] TFa))).1
    go_region_law (refine step_append_run rfl (.tmp 26) (.tmp 28) _ _ rfl _ _ rfl rfl _ _ HR4.out ?_)
    all_goals
      go_wp2_with fail
      refine bodyPost_end (results_none rfl _ _ _) rfl ?_
      exact HN.out
end Go.Proofs.YtglonlpfnllocaaGreatDoor

/-
  Package solve in memory: the solver as a whole, and a fact that is awaited.
-/
namespace Go.Proofs.YtglonlpfnllocaaGreatDoor
open Go.RowKit Go.Extern.Stop Go.Stop Go.Extern Go.Maps

theorem await_any {w : World} {B sb kb n : Nat} {c0 c1 c2 c3 c6 c7 : Value} {da : Option Addr} {dc : Nat} {s : SolD} {f : Fact}
    (hs : w.heap[sb]? = some (.cells #[c0, c1, c2, c3, .slice da s.due.length dc, .map (some kb), c6, c7] TSol (0, 0)))
    (hk : KMap TFa factLit okF w kb n (knownM s.known)) (hn : n < maxLen) (hd : w.ownsRow B TFa 2 (.slice da s.due.length dc) s.due.length (ecells s.due)) (hB : B ≤ w.heap.size) (hl : s.due.length ≤ 1000000) (hf : okF f) :
    Calls Tryz.prog 61 #[.pointer (some ⟨sb, 0, none⟩), factV f] w fun e w' => AwaitPost w B sb kb (fun d => #[c0, c1, c2, c3, d, .map (some kb), c6, c7]) (.slice da s.due.length dc) s f n e w' := by
  obtain ⟨a, b⟩ := f
  cases hkn : s.known (a, b) with
  | true => exact await_old hs hk hd hf hkn
  | false => exact await_new hs hk hn hd hB hl hf hkn

abbrev intLit (x : Int) : Lit := .int .i64 x
/-- Where a solver lies. -/
structure SolB where
  v1 : Value
  v2 : Value
  v3 : Value
  g : Nat
  us : List Value
  hc : Nat
  da : Option Addr
  dc : Nat
  kb : Nat
  kn : Nat
  eb : Nat
  en : Nat
  ev : Int → Value
  rb : Nat
  rn : Nat
  rv : Int → Value
  ra : Int → List Value
/-- What a map of rows holds: a row where something was put. -/
def rowM {α : Type} (f : Int → List α) (v : Int → Value) (a : Int) : Option Value := if (f a).isEmpty then none else some (v a)
def ruleCellsV (r : RuleD) (av : Value) : List Value := [.string (S r.kind), .int .i64 r.a, .int .i64 r.b, .int .i64 r.stmt, av]
def rcells (rs : List RuleD) (avs : List Value) : List Value := ((List.range rs.length).map fun j => ruleCellsV (rs.getD j default) (avs.getD j .nilIface)).flatten
/-- The blocks that the solver writes. -/
def OwnB (sb : Nat) (m : SolB) (s : SolD) (k : Nat) : Prop :=
  k = sb ∨ k = m.g ∨ k = m.kb ∨ k = m.eb ∨ k = m.rb ∨ (Value.slice m.da s.due.length m.dc).ownBlock = some k ∨ (∃ j, j < s.has.length ∧ (m.us.getD j .nilIface).ownBlock = some k) ∨
    (∃ a, s.edges a ≠ [] ∧ (m.ev a).ownBlock = some k) ∨ (∃ a, s.rules a ≠ [] ∧ (m.rv a).ownBlock = some k)
/-- What is only read. -/
structure ReadM (w : World) (fs : List FunD) (m : SolB) (s : SolD) : Prop where
  funs : IsFuns w m.v2 fs
  args : ∀ a j, j < (s.rules a).length → IsInts w ((m.ra a).getD j .nilIface) ((s.rules a).getD j default).args
structure SolM (w : World) (B sb : Nat) (fs : List FunD) (m : SolB) (s : SolD) : Prop where
  blk : w.heap[sb]? = some (.cells #[m.v1, m.v2, m.v3, .slice (some ⟨m.g, 0, none⟩) s.has.length m.hc, .slice m.da s.due.length m.dc, .map (some m.kb), .map (some m.eb), .map (some m.rb)] TSol (0, 0))
  has : Rows2 w B m.g s.has m.us
  due : w.ownsRow B TFa 2 (.slice m.da s.due.length m.dc) s.due.length (ecells s.due)
  known : KMap TFa factLit okF w m.kb m.kn (knownM s.known)
  edges : KMap 3 intLit okI w m.eb m.en (rowM s.edges m.ev)
  erow : ∀ a, s.edges a ≠ [] → w.ownsRow B 3 1 (m.ev a) (s.edges a).length ((s.edges a).map intV)
  eapart : ∀ a b, s.edges a ≠ [] → s.edges b ≠ [] → a ≠ b → ApartR (m.ev a) (m.ev b)
  ehas : ∀ a j, s.edges a ≠ [] → j < s.has.length → ApartR (m.ev a) (m.us.getD j .nilIface)
  rules : KMap 3 intLit okI w m.rb m.rn (rowM s.rules m.rv)
  rrow : ∀ a, s.rules a ≠ [] → w.ownsRow B TRu 5 (m.rv a) (s.rules a).length (rcells (s.rules a) (m.ra a))
  rapart : ∀ a b, s.rules a ≠ [] → s.rules b ≠ [] → a ≠ b → ApartR (m.rv a) (m.rv b)
  maps : m.kb ≠ m.eb ∧ m.kb ≠ m.rb ∧ m.eb ≠ m.rb
  ro : ∀ w', (∀ (k : Nat) (o : Obj), w.heap[k]? = some o → ¬ OwnB sb m s k → w'.heap[k]? = some o) → ReadM w' fs m s
  rlen : ∀ a, (m.ra a).length = (s.rules a).length
theorem SolM.size {w : World} {B sb : Nat} {fs : List FunD} {m : SolB} {s : SolD} (h : SolM w B sb fs m s) : B ≤ w.heap.size := Nat.le_trans h.has.low (Nat.le_of_lt h.has.lt)
theorem SolM.below {w w' : World} {B sb : Nat} {fs : List FunD} {m : SolB} {s : SolD} (h : SolM w B sb fs m s) (hb : Below w.heap.size w w') : SolM w' B sb fs m s :=
  ⟨block_keep hb h.blk, h.has.below hb, owns_below h.due hb, h.known.below hb, h.edges.below hb, fun a ha => owns_below (h.erow a ha) hb, h.eapart, h.ehas, h.rules.below hb, fun a ha => owns_below (h.rrow a ha) hb, h.rapart, h.maps,
    fun w2 h2 => h.ro w2 fun k o q hn => h2 k o (block_keep hb q) hn, h.rlen⟩
/-- Two blocks of two types are two. -/
theorem ne_types {w : World} {a b : Nat} {cs ds : Array Value} {t u : TypeId} {f g : Nat × Nat} (ha : w.heap[a]? = some (.cells cs t f)) (hb : w.heap[b]? = some (.cells ds u g)) (hne : t ≠ u) : a ≠ b := fun e => by
  rw [← e, ha] at hb
  injection hb with hb
  injection hb with _ h _
  exact hne h
theorem ne_map {w : World} {a b : Nat} {cs : Array Value} {t : TypeId} {f : Nat × Nat} {es : Array MapEntry} {c : Nat} (ha : w.heap[a]? = some (.cells cs t f)) (hb : w.heap[b]? = some (.map es c)) : a ≠ b := fun e => by
  rw [← e, ha] at hb
  injection hb with hb
  cases hb
theorem own_ne {w : World} {B : Nat} {e t : TypeId} {k n : Nat} {v : Value} {xs : List Value} (h : w.ownsRow B e k v n xs) {b : Nat} {cs : Array Value} {f : Nat × Nat} (hb : w.heap[b]? = some (.cells cs t f)) (hne : e ≠ t) : v.ownBlock ≠ some b := fun q => by
  obtain ⟨_, ds, hh⟩ := ownBlock_lt h q
  exact ne_types hh hb hne rfl
theorem own_ne_map {w : World} {B : Nat} {e : TypeId} {k n : Nat} {v : Value} {xs : List Value} (h : w.ownsRow B e k v n xs) {b : Nat} {es : Array MapEntry} {c : Nat} (hb : w.heap[b]? = some (.map es c)) : v.ownBlock ≠ some b := fun q => by
  obtain ⟨_, ds, hh⟩ := ownBlock_lt h q
  exact ne_map hh hb rfl
/-- A row of another type is kept by an await. -/
theorem owns_keepA {w w1 : World} {B B' : Nat} {e : TypeId} {k n n' : Nat} {v d : Value} {xs ys : List Value} {sb kb : Nat} (h : w.ownsRow B e k v n xs) (hk : KeepA w w1 sb kb d.ownBlock) (hd : w.ownsRow B' TFa 2 d n' ys) {cs : Array Value} {f : Nat × Nat} (hsb : w.heap[sb]? = some (.cells cs TSol f)) {es : Array MapEntry} {c : Nat} (hkb : w.heap[kb]? = some (.map es c)) (he : e ≠ TFa) (he2 : e ≠ TSol) : w1.ownsRow B e k v n xs := by
  refine ⟨h.1, ?_⟩
  rcases h.2 with q | ⟨g, cap, cur, rfl, hb, hh, hr⟩
  · exact Or.inl q
  · exact Or.inr ⟨g, cap, cur, rfl, hb, hk g _ hh (ne_types hh hsb he2) (ne_map hh hkb) (own_ne hd hh (Ne.symm he)), hr⟩
/-- A fact that is awaited: the solver behind it. -/
theorem SolM.await {w w' : World} {B sb : Nat} {fs : List FunD} {m : SolB} {s : SolD} {f : Fact} {e : Ending} (h : SolM w B sb fs m s)
    (hp : AwaitPost w B sb m.kb (fun d => #[m.v1, m.v2, m.v3, .slice (some ⟨m.g, 0, none⟩) s.has.length m.hc, d, .map (some m.kb), .map (some m.eb), .map (some m.rb)]) (.slice m.da s.due.length m.dc) s f m.kn e w') :
    e = .returned (.tuple #[]) ∧ ∃ da dc, SolM w' B sb fs { m with da := da, dc := dc, kn := m.kn + 1 } (s.await f) ∧ w'.os = w.os ∧ w'.tape = w.tape ∧ w'.output = w.output ∧ w.heap.size ≤ w'.heap.size := by
  obtain ⟨he, da, dc, h1, h2, h3, hk, o1, o2, o3, o4, hob⟩ := hp
  refine ⟨he, da, dc, ?_, o1, o2, o3, o4⟩
  obtain ⟨es, cl, hkb⟩ := h.known.isMap
  obtain ⟨es2, cl2, heb⟩ := h.edges.isMap
  obtain ⟨es3, cl3, hrb⟩ := h.rules.isMap
  have eh := await_has s f
  have ee := await_edges s f
  have er := await_rules s f
  have hdb : ∀ (k : Nat) (es : Array MapEntry) (c : Nat), w.heap[k]? = some (.map es c) → k ≠ m.kb → w'.heap[k]? = some (.map es c) := fun k es c q hne => hk k _ q (Ne.symm (ne_map h.blk q)) hne (own_ne_map h.due q)
  have keepI : ∀ {t : TypeId} {k n : Nat} {v : Value} {xs : List Value}, w.ownsRow B t k v n xs → t ≠ TFa → t ≠ TSol → w'.ownsRow B t k v n xs := fun q a b => owns_keepA q hk h.due h.blk hkb a b
  have hg := h.has.blk
  refine ⟨?_, ⟨h.has.low, by rw [eh]; exact h.has.lu, hk _ _ hg (ne_types hg h.blk (by decide)) (ne_map hg hkb) (own_ne h.due hg (by decide)), ?_, ?_⟩, h3, h2, ?_, ?_, ?_, ?_, ?_, ?_, ?_, h.maps, fun w2 hw2 => ?_, by rw [er]; exact h.rlen⟩
  · rw [eh]; exact h1
  · rw [eh]; exact fun j hj => keepI (h.has.own j hj) (by decide) (by decide)
  · rw [eh]; exact h.has.apart
  · rw [ee]
    exact h.edges.keep (by rw [heb]; exact hdb _ _ _ heb (Ne.symm h.maps.1))
  · rw [ee]; exact fun a ha => keepI (h.erow a ha) (by decide) (by decide)
  · rw [ee]; exact h.eapart
  · rw [ee, eh]; exact h.ehas
  · rw [er]
    exact h.rules.keep (by rw [hrb]; exact hdb _ _ _ hrb (Ne.symm h.maps.2.1))
  · rw [er]; exact fun a ha => keepI (h.rrow a ha) (by decide) (by decide)
  · rw [er]; exact h.rapart
  · have hr := h.ro w2 fun k o q hn => by
      have hns : k ≠ sb := fun e => hn (Or.inl e)
      have hnk : k ≠ m.kb := fun e => hn (Or.inr (Or.inr (Or.inl e)))
      have hnd : (Value.slice m.da s.due.length m.dc).ownBlock ≠ some k := fun e => hn (Or.inr (Or.inr (Or.inr (Or.inr (Or.inr (Or.inl e))))))
      refine hw2 k o (hk k o q hns hnk hnd) fun hown => hn ?_
      unfold OwnB at hown ⊢
      rw [eh, ee, er] at hown
      rcases hown with q1 | q1 | q1 | q1 | q1 | q1 | q1 | q1 | q1
      · exact Or.inl q1
      · exact Or.inr (Or.inl q1)
      · exact Or.inr (Or.inr (Or.inl q1))
      · exact Or.inr (Or.inr (Or.inr (Or.inl q1)))
      · exact Or.inr (Or.inr (Or.inr (Or.inr (Or.inl q1))))
      · rcases hob with q2 | q2
        · exact absurd (q2 ▸ q1) hnd
        · exact absurd (Array.getElem?_eq_some_iff.1 q).1 (Nat.not_lt.2 (q2 k q1))
      · exact Or.inr (Or.inr (Or.inr (Or.inr (Or.inr (Or.inr (Or.inl q1))))))
      · exact Or.inr (Or.inr (Or.inr (Or.inr (Or.inr (Or.inr (Or.inr (Or.inl q1)))))))
      · exact Or.inr (Or.inr (Or.inr (Or.inr (Or.inr (Or.inr (Or.inr (Or.inr q1)))))))
    exact ⟨hr.funs, by rw [er]; exact hr.args⟩
end Go.Proofs.YtglonlpfnllocaaGreatDoor

/-
  Package solve in memory: steps of the solver; an edge more.
-/
namespace Go.Proofs.YtglonlpfnllocaaGreatDoor
open Go.RowKit Go.Extern.Stop Go.Stop Go.Extern Go.Maps

/-- What a step of the solver keeps. -/
structure SolStep (w w' : World) (sb : Nat) (m m' : SolB) (s s' : SolD) : Prop where
  keep : ∀ (k : Nat) (o : Obj), w.heap[k]? = some o → ¬ OwnB sb m s k → w'.heap[k]? = some o
  own : ∀ k, OwnB sb m' s' k → OwnB sb m s k ∨ w.heap.size ≤ k
  os : w'.os = w.os
  tape : w'.tape = w.tape
  output : w'.output = w.output
  size : w.heap.size ≤ w'.heap.size
  at_ : m'.v1 = m.v1 ∧ m'.v2 = m.v2 ∧ m'.v3 = m.v3 ∧ m'.g = m.g ∧ m'.us = m.us ∧ m'.hc = m.hc ∧ m'.rv = m.rv ∧ m'.ra = m.ra ∧ m'.rb = m.rb ∧ m'.eb = m.eb ∧ m'.kb = m.kb
theorem SolStep.refl {w w' : World} (hb : Below w.heap.size w w') (sb : Nat) (m : SolB) (s : SolD) : SolStep w w' sb m m s s :=
  ⟨fun _ _ q _ => block_keep hb q, fun _ q => Or.inl q, hb.os, hb.tape, hb.output, hb.size, rfl, rfl, rfl, rfl, rfl, rfl, rfl, rfl, rfl, rfl, rfl⟩
theorem SolStep.trans {w1 w2 w3 : World} {sb : Nat} {m1 m2 m3 : SolB} {s1 s2 s3 : SolD} (h1 : SolStep w1 w2 sb m1 m2 s1 s2) (h2 : SolStep w2 w3 sb m2 m3 s2 s3) : SolStep w1 w3 sb m1 m3 s1 s3 := by
  obtain ⟨a1, a2, a3, a4, a5, a6, a7, a8, a9, a10, a11⟩ := h1.at_
  obtain ⟨b1, b2, b3, b4, b5, b6, b7, b8, b9, b10, b11⟩ := h2.at_
  refine ⟨fun k o q hn => h2.keep k o (h1.keep k o q hn) fun q2 => ?_, fun k q => ?_, h2.os.trans h1.os, h2.tape.trans h1.tape, h2.output.trans h1.output, Nat.le_trans h1.size h2.size, b1.trans a1, b2.trans a2, b3.trans a3, b4.trans a4, b5.trans a5, b6.trans a6, b7.trans a7, b8.trans a8, b9.trans a9, b10.trans a10, b11.trans a11⟩
  · rcases h1.own k q2 with q3 | q3
    · exact hn q3
    · exact absurd (Array.getElem?_eq_some_iff.1 q).1 (Nat.not_lt.2 q3)
  · rcases h2.own k q with q2 | q2
    · exact h1.own k q2
    · exact Or.inr (Nat.le_trans h1.size q2)
/-- A new row stands apart from the others, as the old one did. -/
theorem apart_new {w : World} {B : Nat} {e : TypeId} {k n : Nat} {v v' o : Value} {xs : List Value} (hob : v'.ownBlock = v.ownBlock ∨ ∀ g', v'.ownBlock = some g' → w.heap.size ≤ g') (ho : w.ownsRow B e k o n xs) (h : ApartR v o) : ApartR v' o := by
  rcases hob with q | q
  · unfold ApartR at h ⊢
    rw [q]; exact h
  · cases e1 : o.ownBlock with
    | none => exact Or.inl e1
    | some b =>
      right
      intro e2
      have h1 := q b (by rw [← e2, e1])
      have h2 := (ownBlock_lt ho e1).1
      omega
/-- The row at a key: where nothing was put, no row. -/
def rowV {α : Type} (f : Int → List α) (v : Int → Value) (a : Int) : Value := (rowM f v a).getD (.slice none 0 0)
theorem rowV_none {α : Type} {f : Int → List α} {v : Int → Value} {a : Int} (h : f a = []) : rowV f v a = .slice none 0 0 := by unfold rowV rowM; rw [h]; rfl
theorem rowV_some {α : Type} {f : Int → List α} {v : Int → Value} {a : Int} (h : f a ≠ []) : rowV f v a = v a := by
  unfold rowV rowM
  rw [if_neg (by simpa using h)]
  rfl
theorem SolM.row {w : World} {B sb : Nat} {fs : List FunD} {m : SolB} {s : SolD} (h : SolM w B sb fs m s) (a : Int) : w.ownsRow B 3 1 (rowV s.edges m.ev a) (s.edges a).length ((s.edges a).map intV) := by
  by_cases e : s.edges a = []
  · rw [rowV_none e, e]
    exact ⟨rfl, Or.inl ⟨rfl, rfl⟩⟩
  · rw [rowV_some e]
    exact h.erow a e
theorem row_put {α : Type} (f : Int → List α) (v : Int → Value) (x : Int) (l : List α) (u : Value) (hl : l ≠ []) : putM (rowM f v) x u = rowM (updF f x l) (updF v x u) := by
  funext y
  unfold putM rowM updF
  by_cases e : y = x
  · rw [if_pos e, if_pos e, if_pos e, if_neg (by simpa using hl)]
  · rw [if_neg e, if_neg e, if_neg e]
theorem row_apart {α : Type} {f : Int → List α} {v : Int → Value} {a : Int} {o : Value} (h : f a ≠ [] → ApartR (v a) o) : ApartR (rowV f v a) o := by
  by_cases e : f a = []
  · rw [rowV_none e]
    cases ho : o.ownBlock with
    | none => exact Or.inl ho
    | some b => right; rw [ho]; exact fun q => by cases q
  · rw [rowV_some e]; exact h e
/-- An edge more. -/
theorem SolM.addEdge {w : World} {B sb : Nat} {fs : List FunD} {m : SolB} {s : SolD} (h : SolM w B sb fs m s) (x y : Int) (hx : okI x) (hn : m.en < maxLen) (hl : (s.edges x).length ≤ 1000000) :
    ∃ v' w4 w5, (Builtin.append_ #[TSI, TSI] TSI #[rowV s.edges m.ev x, .slice (some ⟨w.heap.size, 0, none⟩) 1 1]).run Tryz.prog (w.alloc (.cells #[.int .i64 y] 3)) = .ok v' w4 ∧
      (Instr.mapUpdate 66 (.map (some m.eb)) (.int .i64 x) v').run Tryz.prog w4 = .ok () w5 ∧
      SolM w5 B sb fs { m with en := m.en + 1, ev := updF m.ev x v' } { s with edges := updF s.edges x (s.edges x ++ [y]) } ∧ SolStep w w5 sb m { m with en := m.en + 1, ev := updF m.ev x v' } s { s with edges := updF s.edges x (s.edges x ++ [y]) } ∧
      (∀ (k : Nat) (o : Obj), w.heap[k]? = some o → (rowV s.edges m.ev x).ownBlock ≠ some k → w4.heap[k]? = some o) ∧ w.heap.size ≤ w4.heap.size := by
  have hrow := h.row x
  obtain ⟨v', w4, hr4, ho4, hb4, hkp4, hob⟩ := append_at1 w B (rowV s.edges m.ev x) (s.edges x).length 1 8 TSI 3 (.int .i64 0) ((s.edges x).map intV) [.int .i64 y] hrow h.size Tryz.underlying40 Tryz.infoInt (by decide) rfl rfl (fun v hv => by rw [List.mem_singleton.1 hv]; rfl) hl TSI (by decide)
  obtain ⟨es2, cl2, heb⟩ := h.edges.isMap
  obtain ⟨es, cl, hkb⟩ := h.known.isMap
  obtain ⟨es3, cl3, hrb⟩ := h.rules.isMap
  have keep4 : ∀ (k : Nat) (o : Obj), w.heap[k]? = some o → (rowV s.edges m.ev x).ownBlock ≠ some k → w4.heap[k]? = some o := hkp4
  have heb4 := keep4 _ _ heb (own_ne_map hrow heb)
  obtain ⟨w5, hr5, hk5, hg5⟩ := (h.edges.keep (w' := w4) (by rw [heb, heb4])).put intKeys Tryz.underlying66 hn x hx v'
  rw [row_put s.edges m.ev x (s.edges x ++ [y]) v' (by simp)] at hk5
  have keep5 : ∀ (k : Nat) (o : Obj), w4.heap[k]? = some o → k ≠ m.eb → w5.heap[k]? = some o := fun k o q hne => KeepBut.of_grown hg5 k o q (fun e => by injection e with e; exact hne e.symm)
  have keep : ∀ (k : Nat) (o : Obj), w.heap[k]? = some o → (rowV s.edges m.ev x).ownBlock ≠ some k → k ≠ m.eb → w5.heap[k]? = some o := fun k o q h1 h2 => keep5 k o (keep4 k o q h1) h2
  have keepR : ∀ {t : TypeId} {k n : Nat} {v : Value} {xs : List Value}, w.ownsRow B t k v n xs → ApartR (rowV s.edges m.ev x) v → w5.ownsRow B t k v n xs := fun {t k n v xs} q hap => by
    refine ⟨q.1, ?_⟩
    rcases q.2 with q1 | ⟨g, cap, cur, rfl, hb, hh, hr⟩
    · exact Or.inl q1
    · refine Or.inr ⟨g, cap, cur, rfl, hb, keep g _ hh (fun e => ?_) (ne_map hh heb), hr⟩
      rcases hap with q2 | q2
      · cases q2
      · exact q2 e.symm
  have tyR : ∀ {t : TypeId} {k n : Nat} {v : Value} {xs : List Value}, w.ownsRow B t k v n xs → t ≠ 3 → ApartR (rowV s.edges m.ev x) v := fun {t k n v xs} q hne => by
    cases e1 : v.ownBlock with
    | none => exact Or.inl e1
    | some b =>
      right
      intro e2
      obtain ⟨_, ds, hh⟩ := ownBlock_lt q e1
      exact own_ne hrow hh (Ne.symm hne) (by rw [← e2, e1])
  have hsize : w.heap.size ≤ w5.heap.size := Nat.le_trans hb4.size hg5.size
  have hasA : ∀ j, j < s.has.length → ApartR (rowV s.edges m.ev x) (m.us.getD j .nilIface) := fun j hj => row_apart fun e => h.ehas x j e hj
  have edgA : ∀ b, s.edges b ≠ [] → b ≠ x → ApartR (rowV s.edges m.ev x) (m.ev b) := fun b hb hne => row_apart fun e => h.eapart x b e hb (Ne.symm hne)
  have hstep : SolStep w w5 sb m { m with en := m.en + 1, ev := updF m.ev x v' } s { s with edges := updF s.edges x (s.edges x ++ [y]) } := by
    refine ⟨fun k o q hn => keep k o q (fun e => hn ?_) (fun e => hn (Or.inr (Or.inr (Or.inr (Or.inl e))))), fun k q => ?_, hg5.os.trans hb4.os, hg5.tape.trans hb4.tape, hg5.output.trans hb4.output, hsize, rfl, rfl, rfl, rfl, rfl, rfl, rfl, rfl, rfl, rfl, rfl⟩
    · by_cases e2 : s.edges x = []
      · rw [rowV_none e2] at e; cases e
      · rw [rowV_some e2] at e
        exact Or.inr (Or.inr (Or.inr (Or.inr (Or.inr (Or.inr (Or.inr (Or.inl ⟨x, e2, e⟩)))))))
    · rcases q with q1 | q1 | q1 | q1 | q1 | q1 | q1 | ⟨a, q1, q2⟩ | q1
      · exact Or.inl (Or.inl q1)
      · exact Or.inl (Or.inr (Or.inl q1))
      · exact Or.inl (Or.inr (Or.inr (Or.inl q1)))
      · exact Or.inl (Or.inr (Or.inr (Or.inr (Or.inl q1))))
      · exact Or.inl (Or.inr (Or.inr (Or.inr (Or.inr (Or.inl q1)))))
      · exact Or.inl (Or.inr (Or.inr (Or.inr (Or.inr (Or.inr (Or.inl q1))))))
      · exact Or.inl (Or.inr (Or.inr (Or.inr (Or.inr (Or.inr (Or.inr (Or.inl q1)))))))
      · have q2' : (updF m.ev x v' a).ownBlock = some k := q2
        have q1' : updF s.edges x (s.edges x ++ [y]) a ≠ [] := q1
        clear q1 q2
        have q1 := q1'
        have q2 := q2'
        by_cases e : a = x
        · subst e
          rw [updF_same] at q2
          rcases hob with q3 | q3
          · rw [q3] at q2
            by_cases e2 : s.edges a = []
            · rw [rowV_none e2] at q2; cases q2
            · rw [rowV_some e2] at q2
              exact Or.inl (Or.inr (Or.inr (Or.inr (Or.inr (Or.inr (Or.inr (Or.inr (Or.inl ⟨a, e2, q2⟩))))))))
          · exact Or.inr (q3 k q2)
        · rw [updF_other _ _ e] at q1 q2
          exact Or.inl (Or.inr (Or.inr (Or.inr (Or.inr (Or.inr (Or.inr (Or.inr (Or.inl ⟨a, q1, q2⟩))))))))
      · exact Or.inl (Or.inr (Or.inr (Or.inr (Or.inr (Or.inr (Or.inr (Or.inr (Or.inr q1))))))))
  refine ⟨v', w4, w5, hr4, hr5, ?_, hstep, keep4, hb4.size⟩
  have hg := h.has.blk
  refine ⟨keep _ _ h.blk (own_ne hrow h.blk (by decide)) (ne_map h.blk heb), ⟨h.has.low, h.has.lu, keep _ _ hg (own_ne hrow hg (by decide)) (ne_map hg heb), fun j hj => keepR (h.has.own j hj) (hasA j hj), h.has.apart⟩, keepR h.due (tyR h.due (by decide)), h.known.keep ?_, hk5, fun a ha => ?_, fun a b ha hb hne => ?_, fun a j ha hj => ?_, h.rules.keep ?_, fun a ha => keepR (h.rrow a ha) (tyR (h.rrow a ha) (by decide)), h.rapart, h.maps, fun w2 hw2 => ?_, h.rlen⟩
  · rw [hkb]; exact keep _ _ hkb (own_ne_map hrow hkb) h.maps.1
  · by_cases e : a = x
    · subst e
      show w5.ownsRow B _ 1 (updF m.ev a v' a) (updF s.edges a (s.edges a ++ [y]) a).length ((updF s.edges a (s.edges a ++ [y]) a).map intV)
      rw [updF_same, updF_same, List.length_append, List.length_singleton, List.map_append]
      exact owns_keepBut ho4 (KeepBut.of_grown hg5) (Or.inr (own_ne_map ho4 heb4))
    · have ha' : s.edges a ≠ [] := by
        have : updF s.edges x (s.edges x ++ [y]) a ≠ [] := ha
        rw [updF_other _ _ e] at this
        exact this
      show w5.ownsRow B _ 1 (updF m.ev x v' a) (updF s.edges x (s.edges x ++ [y]) a).length ((updF s.edges x (s.edges x ++ [y]) a).map intV)
      rw [updF_other _ _ e, updF_other _ _ e]
      exact keepR (h.erow a ha') (edgA a ha' e)
  · show ApartR (updF m.ev x v' a) (updF m.ev x v' b)
    have old : ∀ c, c ≠ x → updF s.edges x (s.edges x ++ [y]) c ≠ [] → s.edges c ≠ [] := fun c hc q => by rw [updF_other _ _ hc] at q; exact q
    by_cases e1 : a = x
    · have e2 : b ≠ x := fun q => hne (e1.trans q.symm)
      have hb' := old b e2 hb
      rw [e1, updF_same, updF_other _ _ e2]
      exact apart_new hob (h.erow b hb') (edgA b hb' e2)
    · have ha' := old a e1 ha
      rw [updF_other _ _ e1]
      by_cases e2 : b = x
      · rw [e2, updF_same]
        exact (apart_new hob (h.erow a ha') (edgA a ha' e1)).symm
      · rw [updF_other _ _ e2]
        exact h.eapart a b ha' (old b e2 hb) hne
  · show ApartR (updF m.ev x v' a) (m.us.getD j .nilIface)
    by_cases e1 : a = x
    · rw [e1, updF_same]
      exact apart_new hob (h.has.own j hj) (hasA j hj)
    · rw [updF_other _ _ e1]
      have ha2 : updF s.edges x (s.edges x ++ [y]) a ≠ [] := ha
      rw [updF_other _ _ e1] at ha2
      exact h.ehas a j ha2 hj
  · rw [hrb]; exact keep _ _ hrb (own_ne_map hrow hrb) (Ne.symm h.maps.2.2)
  · have hr := h.ro w2 fun k o q hn => hw2 k o (hstep.keep k o q hn) fun q2 => by
      rcases hstep.own k q2 with q3 | q3
      · exact hn q3
      · exact absurd (Array.getElem?_eq_some_iff.1 q).1 (Nat.not_lt.2 q3)
    exact ⟨hr.funs, hr.args⟩
end Go.Proofs.YtglonlpfnllocaaGreatDoor

/-
  Package solve in memory: nodes are joined.
-/
namespace Go.Proofs.YtglonlpfnllocaaGreatDoor
open Go.RowKit Go.Extern.Stop Go.Stop Go.Extern Go.Maps

theorem containsI_any (zs : List Int) (v : Value) (x : Int) (w : World) (hm : zs.length ≤ 1000000) (h : IsInts w v zs) :
    Calls Tryz.prog 89 #[v, .int .i64 x] w fun e w' => e = .returned (.bool (zs.contains x)) ∧ w' = w := by
  rcases h with ⟨hz, a, c, rfl⟩ | ⟨hz, b, o, c, rfl, hc⟩
  · subst hz
    exact Tryz.slices_Contains_int_empty a c x w
  · have := Tryz.slices_Contains_int b o zs.length c zs x w (Nat.le_refl _) (by omega) hc
    rw [List.take_length] at this
    exact this
/-- A fact that is awaited, as a step. -/
theorem SolM.awaitC {w : World} {B sb : Nat} {fs : List FunD} {m : SolB} {s : SolD} (h : SolM w B sb fs m s) (f : Fact) (hf : okF f) (hn : m.kn < maxLen) (hl : s.due.length ≤ 1000000) :
    Calls Tryz.prog 61 #[.pointer (some ⟨sb, 0, none⟩), factV f] w fun e w' => e = .returned (.tuple #[]) ∧ ∃ m', SolM w' B sb fs m' (s.await f) ∧ SolStep w w' sb m m' s (s.await f) ∧ m'.kn = m.kn + 1 ∧ m'.en = m.en ∧ m'.rn = m.rn ∧ m'.ev = m.ev := by
  refine (await_any h.blk h.known hn h.due h.size hl hf).mono fun e w' hp => ?_
  obtain ⟨he, da, dc, hM, o1, o2, o3, o4⟩ := h.await hp
  obtain ⟨-, da2, dc2, q1, -, q3, hk, -, -, -, -, hob⟩ := hp
  refine ⟨he, _, hM, ⟨fun k o q hn => hk k o q (fun e => hn (Or.inl e)) (fun e => hn (Or.inr (Or.inr (Or.inl e)))) (fun e => hn (Or.inr (Or.inr (Or.inr (Or.inr (Or.inr (Or.inl e))))))), fun k q => ?_, o1, o2, o3, o4, rfl, rfl, rfl, rfl, rfl, rfl, rfl, rfl, rfl, rfl, rfl⟩, rfl, rfl, rfl, rfl⟩
  have hda : Value.slice da2 (s.await f).due.length dc2 = .slice da (s.await f).due.length dc := by
    have a1 := hM.blk
    rw [q1] at a1
    injection a1 with a1
    injection a1 with a1 _ _
    have a2 := congrArg Array.toList a1
    simp at a2
    rw [a2.2.1, a2.2.2]
  rw [hda] at hob
  unfold OwnB at q ⊢
  rw [await_has, await_edges, await_rules] at q
  rcases q with q1 | q1 | q1 | q1 | q1 | q1 | q1 | q1 | q1
  · exact Or.inl (Or.inl q1)
  · exact Or.inl (Or.inr (Or.inl q1))
  · exact Or.inl (Or.inr (Or.inr (Or.inl q1)))
  · exact Or.inl (Or.inr (Or.inr (Or.inr (Or.inl q1))))
  · exact Or.inl (Or.inr (Or.inr (Or.inr (Or.inr (Or.inl q1)))))
  · rcases hob with q2 | q2
    · exact Or.inl (Or.inr (Or.inr (Or.inr (Or.inr (Or.inr (Or.inl (q2 ▸ q1)))))))
    · exact Or.inr (q2 k q1)
  · exact Or.inl (Or.inr (Or.inr (Or.inr (Or.inr (Or.inr (Or.inr (Or.inl q1)))))))
  · exact Or.inl (Or.inr (Or.inr (Or.inr (Or.inr (Or.inr (Or.inr (Or.inr (Or.inl q1))))))))
  · exact Or.inl (Or.inr (Or.inr (Or.inr (Or.inr (Or.inr (Or.inr (Or.inr (Or.inr q1))))))))
theorem SolM.edgeLook {w : World} {B sb : Nat} {fs : List FunD} {m : SolB} {s : SolD} (h : SolM w B sb fs m s) (x : Int) (hx : okI x) :
    (Instr.lookup 66 (.map (some m.eb)) (.int .i64 x) false).run Tryz.prog w = .ok (rowV s.edges m.ev x) w :=
  h.edges.look intKeys Tryz.underlying66 (by kernel_rfl) x hx
/-- The state behind the first k facts of a join. -/
def joinK (s : SolD) (p : Pair) (k : Nat) : SolD := (((setAt s.has p.1).take k).map fun o => (p.2, o)).foldl SolD.await { s with edges := updF s.edges p.1 (s.edges p.1 ++ [p.2]) }
theorem joinK_has (s : SolD) (p : Pair) (k : Nat) : (joinK s p k).has = s.has := by
  unfold joinK
  generalize ((setAt s.has p.1).take k).map (fun o => (p.2, o)) = l
  have : ∀ (l : List Fact) (s : SolD), (l.foldl SolD.await s).has = s.has := fun l => by
    induction l with
    | nil => exact fun _ => rfl
    | cons f r ih => exact fun s => by rw [List.foldl_cons, ih, await_has]
  exact this l _
theorem joinK_next (s : SolD) (p : Pair) (k : Nat) (hk : k < (setAt s.has p.1).length) : joinK s p (k + 1) = (joinK s p k).await (p.2, (setAt s.has p.1).getD k 0) := by
  unfold joinK
  rw [List.take_succ_eq_append_getElem hk, List.map_append, List.foldl_append]
  simp [List.getD, hk]
theorem joinK_all (s : SolD) (p : Pair) (h : ¬ (p.1 = p.2 ∨ p.2 ∈ s.edges p.1)) : joinK s p (setAt s.has p.1).length = s.join p := by
  unfold joinK SolD.join
  rw [if_neg h, List.take_length]
def JoinSPost (w : World) (B sb : Nat) (fs : List FunD) (m : SolB) (s : SolD) (p : Pair) (e : Ending) (w' : World) : Prop :=
  e = .returned (.tuple #[]) ∧ ∃ m', SolM w' B sb fs m' (s.join p) ∧ SolStep w w' sb m m' s (s.join p) ∧ m'.kn ≤ m.kn + (setAt s.has p.1).length ∧ m'.en ≤ m.en + 1 ∧ m'.rn = m.rn
end Go.Proofs.YtglonlpfnllocaaGreatDoor
