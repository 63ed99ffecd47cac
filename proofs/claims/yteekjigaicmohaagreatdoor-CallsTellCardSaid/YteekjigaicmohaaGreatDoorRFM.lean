/-
  Package run: what a call does to a machine, as plain data; (*machine).call, by a contract.
-/
import Derived.Test.YteekjigaicmohaaGreatDoorZRM
namespace Go.Proofs.YteekjigaicmohaaGreatDoor
open Go.RowKit Go.Extern.Stop Go.Stop Go.Extern

def putN (s : StD) (ps : List Int) (gs : List (Option Ref)) : Nat → StD
  | 0 => s
  | k + 1 => (putN s ps gs k).put (.var (ps.getD k 0).toNat) (gs.getD k none)
def givenD (s : StD) (args : List Int) : List (Option Ref) := args.map fun a => s.get (.var a.toNat)
/-- The function f is called. -/
def enterD (f : FunD) (s : StD) (x : Nat) (args : List Int) : StD :=
  if f.params.length = args.length then (putN s f.params (givenD s args) args.length).put (.var x) ((putN s f.params (givenD s args) args.length).get (.var f.ret.toNat)) else s
def callD (fs : List FunD) (s : StD) (x : Nat) (args : List Int) : Option Ref → StD
  | none => s
  | some (.inl _) => s
  | some (.inr (.inl _)) => s
  | some (.inr (.inr i)) => enterD (fs.getD i default) s x args

theorem call_none {w : World} (mb xb : Nat) (l : Lay) (c : Option Ref) (av : Value) (hc : ∀ r, c = some r → r.isFn = false ∧ w.cell? ⟨l.at r, 0, none⟩ = some (.string (refKind r))) :
    Calls Tryz.prog 129 #[.pointer (some ⟨mb, 0, none⟩), ptrV xb, hasV l c, av] w fun e w' => e = .returned (.tuple #[]) ∧ w' = w := by
  cases c with
  | none =>
    unfold hasV ptrV
    go_enter Tryz.func129, Tryz.ntmps129
    go_wp2_with fail
    refine bodyPost_ret (results_none rfl _ _ _) rfl ?_
    exact ⟨rfl, rfl⟩
  | some r =>
    obtain ⟨hf, h0⟩ := hc r rfl
    have hk := kind_fn r
    rw [hf] at hk
    unfold hasV ptrV
    simp only [Option.map_some]
    obtain ⟨bk, hbk⟩ : ∃ b, b = refKind r := ⟨_, rfl⟩
    obtain ⟨b, hb⟩ : ∃ b, b = l.at r := ⟨_, rfl⟩
    rw [← hbk] at h0 hk
    rw [← hb] at h0 ⊢
    clear hc hbk hb hf
    go_enter Tryz.func129, Tryz.ntmps129
    go_wp2_with fail
    refine bodyPost_ret (results_none rfl _ _ _) rfl ?_
    exact ⟨rfl, rfl⟩

/-- The row of the cells of the variables. -/
theorem Mach.vrow {w : World} {B Bt mb n1 n2 : Nat} {s : StD} {l : Lay} {v1 v2 v3 xv xf xt xp : Value} (h : Mach w B Bt mb n1 n2 s l v1 v2 v3 xv xf xt xp) (hn : 0 < n1) :
    ∃ g cap, xv = .slice (some ⟨g, 0, none⟩) n1 cap ∧ (∀ i, i < n1 → w.cell? ⟨g, i, none⟩ = some (ptrV (l.at (.var i)))) ∧ ∃ cs, w.heap[g]? = some (.cells cs 176 (0, 0)) := by
  rcases h.rv.2 with ⟨q, e⟩ | ⟨g, cap, cur, hv, hg, hh, hcap, hmax, hsz, hcur⟩
  · omega
  · refine ⟨g, cap, hv, fun i hi => ?_, _, hh⟩
    rw [Lib.cell_of_heap hh]
    have h1 : (cur.toList.take (n1 * 1))[i]? = (l.vb.map ptrV)[i]? := by rw [hcur]
    rw [List.getElem?_take_of_lt (by omega)] at h1
    simp only [Array.getElem?_toList] at h1
    rw [h1]
    have hi' : i < l.vb.length := by rw [h.lv]; exact hi
    simp [hi', Lay.at, List.getD]
theorem keepF {w0 w : World} {p0 p1 p2 p3 p4 : Addr} {v0 v1 v2 v3 v4 : Value} (k0 : w0.cell? p0 = some v0) (k1 : w0.cell? p1 = some v1) (k2 : w0.cell? p2 = some v2) (k3 : w0.cell? p3 = some v3) (k4 : w0.cell? p4 = some v4) (hb : Below w0.heap.size w0 w) : Below w0.heap.size w0 w ∧ w.cell? p0 = some v0 ∧ w.cell? p1 = some v1 ∧ w.cell? p2 = some v2 ∧ w.cell? p3 = some v3 ∧ w.cell? p4 = some v4 :=
  ⟨hb, cell_keep hb k0, cell_keep hb k1, cell_keep hb k2, cell_keep hb k3, cell_keep hb k4⟩
/-- The numbers of a function that is right. -/
structure FunOk (n1 : Nat) (f : FunD) : Prop where
  ps : ∀ j, j < f.params.length → 0 ≤ f.params.getD j 0 ∧ f.params.getD j 0 < (n1 : Int)
  r0 : 0 ≤ f.ret
  r1 : f.ret < (n1 : Int)
  len : f.params.length ≤ 1000000
theorem ne_block {w : World} {a b : Nat} {cs ds : Array Value} {T U : TypeId} {f g : Nat × Nat} (h1 : w.heap[a]? = some (.cells cs T f)) (h2 : w.heap[b]? = some (.cells ds U g)) (h : T ≠ U) : a ≠ b := fun e => by
  subst e
  rw [h1] at h2
  injection h2 with h2
  injection h2 with _ h3 _
  exact h h3
theorem cell_set_same {w : World} {p q : Addr} {v : Value} (h : w.cell? q = some v) : (w.setCell p v).cell? q = some v := by
  by_cases e : p = q
  · subst e; exact World.cell?_setCell_same _ _ _ h
  · rw [World.cell?_setCell_other _ _ _ _ e]; exact h
def givV (l : Lay) (s : StD) (args : List Int) (k j : Nat) : Value := if j < k then hasV l (s.get (.var (args.getD j 0).toNat)) else .pointer none
theorem given_at (s : StD) (args : List Int) (k : Nat) (h : k < args.length) : (givenD s args).getD k none = s.get (.var (args.getD k 0).toNat) := by
  simp [givenD, List.getD, h]
theorem giv_last (l : Lay) (s : StD) (args : List Int) (k : Nat) (h : k < args.length) : givV l s args args.length k = hasV l ((givenD s args).getD k none) := by
  unfold givV
  rw [if_pos h, given_at s args k h]
theorem putN_things (s : StD) (ps : List Int) (gs : List (Option Ref)) (k : Nat) : (putN s ps gs k).things.length = s.things.length := by
  induction k with
  | zero => rfl
  | succ k ih => unfold putN; rw [put_things, ih]
theorem putN_places (s : StD) (ps : List Int) (gs : List (Option Ref)) (k : Nat) : (putN s ps gs k).places = s.places := by
  induction k with
  | zero => rfl
  | succ k ih => unfold putN; rw [put_places, ih]
theorem given_ok {w : World} {B Bt mb n1 n2 : Nat} {s : StD} {l : Lay} {v1 v2 v3 xv xf xt xp : Value} (h : Mach w B Bt mb n1 n2 s l v1 v2 v3 xv xf xt xp) (args : List Int) (k : Nat) : OkO n1 n2 s.things.length ((givenD s args).getD k none) := by
  by_cases hk : k < args.length
  · rw [given_at s args k hk]; exact h.get_ok _
  · intro x hx
    simp [givenD, List.getD, List.getElem?_eq_none (Nat.le_of_not_lt hk)] at hx

set_option maxRecDepth 100000 in
set_option maxHeartbeats 8000000 in
theorem call_fn {w0 w : World} {Bt mb n1 : Nat} {s : StD} {l : Lay} {v1 v2 v3 xv xf xt xp : Value} (fs : List FunD) (h : Mach w w0.heap.size Bt mb n1 fs.length s l v1 v2 v3 xv xf xt xp) (hw : Below w0.heap.size w0 w) (hF : IsFuns w0 v2 fs)
    (i : Nat) (hi : i < fs.length) (f : FunD) (hfe : fs.getD i default = f) (hf : FunOk n1 f) (x : Nat) (hx : x < n1) (av : Value) (args : List Int) (hA : IsInts w0 av args) (hal : args.length ≤ 1000000) (hao : ∀ j, j < args.length → 0 ≤ args.getD j 0 ∧ args.getD j 0 < (n1 : Int)) :
    Calls Tryz.prog 129 #[.pointer (some ⟨mb, 0, none⟩), ptrV (l.at (.var x)), hasV l (some (.fn i)), av] w fun e w' => e = .returned (.tuple #[]) ∧ Mach w' w0.heap.size Bt mb n1 fs.length (enterD f s x args) l v1 v2 v3 xv xf xt xp ∧ Below w0.heap.size w w' := by
  obtain ⟨aa, ac, rfl⟩ := isInts_form hA
  obtain ⟨fa, fc, rfl, -, hfs⟩ := hF
  obtain ⟨fb, fo, rfl, pv, q0, q1, qp, q2⟩ := hfs i hi
  rw [hfe] at q0 qp q2
  obtain ⟨hpi, pa, pc, rfl, -⟩ := qp
  obtain ⟨n2, hn2⟩ : ∃ n, n = fs.length := ⟨_, rfl⟩
  rw [← hn2] at h hi ⊢
  obtain ⟨-, c1, -⟩ := h.cellsM
  obtain ⟨k0, k1, -⟩ := cell_kind (h.cells (.fn i) hi)
  obtain ⟨cb, hcb⟩ : ∃ b, b = l.at (.fn i) := ⟨_, rfl⟩
  obtain ⟨xb, hxb⟩ : ∃ b, b = l.at (.var x) := ⟨_, rfl⟩
  have hB := h.size
  replace q0 := cell_keep hw q0
  replace q1 := cell_keep hw q1
  replace q2 := cell_keep hw q2
  rw [show refKind (.fn i) = ⟨#[102, 117, 110]⟩ from rfl] at k0
  rw [show refNo (.fn i) = i from rfl] at k1
  unfold hasV ptrV
  simp only [Option.map_some]
  rw [← hcb] at k0 k1 ⊢
  rw [← hxb]
  obtain ⟨S0, hS0⟩ : ∃ t, t = S f.name := ⟨_, rfl⟩
  rw [← hS0] at q0
  obtain ⟨m, hm⟩ : ∃ m, m = args.length := ⟨_, rfl⟩
  obtain ⟨np, hnp⟩ : ∃ m, m = f.params.length := ⟨_, rfl⟩
  obtain ⟨z, hz⟩ : ∃ z, z = f.ret := ⟨_, rfl⟩
  rw [← hm] at hal hao ⊢
  rw [← hnp] at q1
  rw [← hz] at q2
  have HM : Hid (Mach w w0.heap.size Bt mb n1 n2 s l v1 (.slice (some ⟨fb, fo, none⟩) n2 fc) v3 xv xf xt xp) := h
  have hi' : (i : Int) < n2 := by omega
  have hi0 : (0 : Int) ≤ i := by omega
  have HCB : Hid (cb = l.at (.fn i)) := hcb
  have HXB : Hid (xb = l.at (.var x)) := hxb
  have HLM : Hid (m = args.length) := hm
  have HLP : Hid (np = f.params.length) := hnp
  have HLZ : Hid (z = f.ret) := hz
  have HAO : Hid (∀ j, j < m → 0 ≤ args.getD j 0 ∧ args.getD j 0 < (n1 : Int)) := hao
  have HA : Hid (∀ wx, Below w0.heap.size w wx → ∀ j, j < m → ∃ b o, aa = some ⟨b, o, none⟩ ∧ wx.cell? ⟨b, o + j, none⟩ = some (.int .i64 (args.getD j 0))) := fun wx hwx j hj => isInts_at (hA.below (hw.trans hwx)) j (by omega)
  have HPI : Hid (∀ wx, Below w0.heap.size w wx → ∀ j, j < np → ∃ b o, pa = some ⟨b, o, none⟩ ∧ wx.cell? ⟨b, o + j, none⟩ = some (.int .i64 (f.params.getD j 0))) := fun wx hwx j hj => isInts_at (hpi.below (hw.trans hwx)) j (by omega)
  have HF : Hid (FunOk n1 f) := hf
  have HX : Hid (x < n1) := hx
  have HW : Hid (Below w0.heap.size w0 w) := hw
  have HGO : Hid (∀ j, OkO n1 n2 s.things.length ((givenD s args).getD j none)) := given_ok h args
  have hmk := make_cells m hal
  clear hfs hcb hxb hm hnp hz hn2 h hao hfe hS0 hA hpi hf hx hw
  go_enter Tryz.func129, Tryz.ntmps129
  go_upto_region 1 with fail
  go_region_held3 (fun wx => Below w.heap.size w wx ∧ wx.cell? ⟨mb, 1, none⟩ = some (.slice (some ⟨fb, fo, none⟩) n2 fc) ∧ wx.cell? ⟨cb, 1, none⟩ = some (.int .i64 i) ∧ wx.cell? ⟨fb, fo + i * 3, none⟩ = some (.string S0) ∧ wx.cell? ⟨fb, fo + i * 3 + 1, none⟩ = some (.slice pa np pc) ∧ wx.cell? ⟨fb, fo + i * 3 + 2, none⟩ = some (.int .i64 z))
    ((go_split_ands; refine keepF c1 k1 q0 q1 q2 ?_; repeat (with_reducible first | assumption | exact Below.refl _ _ | refine Below.drew ?_ | refine below_al ?_ _ | refine Below.setCell ?_ (by simp) _)))
    (fail)
  obtain ⟨W1, hW1⟩ : ∃ W1, W1 = (w.alloc (.cells #[.string S0, .slice pa np pc, .int .i64 z] 83)).drew := ⟨_, rfl⟩
  have hB1 : Below w.heap.size w W1 := by rw [hW1]; exact (below1 w _).drew
  have hbox : W1.heap[w.heap.size]? = some (.cells #[.string S0, .slice pa np pc, .int .i64 z] 83 (0, 0)) := by rw [hW1]; exact heap_new w _
  have b1 : W1.cell? ⟨w.heap.size, 1, none⟩ = some (.slice pa np pc) := by rw [Lib.cell_of_heap hbox]; rfl
  rw [← hW1]
  clear hW1 c1 k0 k1 q0 q1 q2
  by_cases hg : np = m
  · subst hg
    have b1' := fun o => cell_keep (below1 W1 o) b1
    go_wp2_with fail
    clear hmk
    have hrow0 := World.rowIs_made W1 (.pointer none) np 176
    have hbox2 := fun o => block_keep (below1 W1 o) hbox
    go_loopw [47] (fun t wr => ∃ k : Nat, k ≤ np ∧ t = .int .i64 k ∧ wr.rowIs W1.heap.size 176 np (givV l s args k) ∧ Below W1.heap.size W1 wr) (fun t _ => (np - intOf t).toNat)
    case atStart => exact ⟨0, Nat.zero_le _, rfl, hrow0.congr fun j hj => by unfold givV; rw [if_neg (Nat.not_lt_zero _)], below1 W1 _⟩
    case round =>
      obtain ⟨k, hk, rfl, hrow, hwr⟩ := hrel
      have hwr0 : Below w.heap.size w wr := hB1.trans (hwr.mono hB1.size)
      have HMr := HM.out.below hwr0
      by_cases hlt : k < np
      · obtain ⟨b, o, rfl, e0⟩ := HA.out wr (hwr0.mono hB) k hlt
        obtain ⟨p0, p1⟩ := HAO.out k hlt
        obtain ⟨a, ha⟩ : ∃ a, a = (args.getD k 0).toNat := ⟨_, rfl⟩
        have haz : args.getD k 0 = (a : Int) := by omega
        have han : a < n1 := by omega
        rw [haz] at e0
        obtain ⟨-, -, -, c3, -⟩ := HMr.cellsM
        obtain ⟨g0, cap, rfl, hvr, -⟩ := HMr.vrow (by omega)
        have e1 := hvr a han
        unfold ptrV at e1
        obtain ⟨-, -, e2, -⟩ := cell_kind (HMr.cells (.var a) han)
        obtain ⟨ab, hab⟩ : ∃ b, b = l.at (.var a) := ⟨_, rfl⟩
        rw [← hab] at e1 e2
        obtain ⟨hv, hhv⟩ : ∃ v, .pointer v = hasV l (s.get (.var a)) := ⟨_, rfl⟩
        rw [← hhv] at e2
        have e3 := hrow.cell hlt
        have e4 := hrow.frozen k
        have hki : (k : Int) < np := by omega
        have hai : (a : Int) < n1 := by omega
        have HR : Hid (wr.rowIs W1.heap.size 176 np (givV l s args k)) := hrow
        have HV : Hid (.pointer hv = hasV l (s.get (.var a)) ∧ a = (args.getD k 0).toNat) := ⟨hhv, ha⟩
        clear hrow hrow0 hab hhv ha haz HMr hvr p0 p1 hbox hbox2 b1 b1' hB1 hwr0
        go_wp2_with fail
        go_roundw
        case rel =>
          refine ⟨k + 1, hlt, by go_num, (HR.out.set k (.pointer hv)).congr fun j hj => ?_, hwr.setCell (Nat.le_refl _) _⟩
          unfold givV
          by_cases e : j = k
          · rw [if_pos e, if_pos (by omega), e, ← HV.out.2]; exact HV.out.1
          · rw [if_neg e]
            by_cases g : j < k
            · rw [if_pos g, if_pos (by omega)]
            · rw [if_neg g, if_neg (by omega)]
        case measure => simp [intOf]; omega
      · have hkn : k = np := by omega
        subst hkn
        have b1r := cell_keep hwr b1
        have HR : Hid (wr.rowIs W1.heap.size 176 k (givV l s args k)) := hrow
        have HBX : Hid (wr.heap[w.heap.size]? = some (.cells #[.string S0, .slice pa k pc, .int .i64 z] 83 (0, 0))) := block_keep hwr hbox
        obtain ⟨W2, rfl⟩ : ∃ W2, W2 = wr := ⟨_, rfl⟩
        have hW2 := hwr.size
        have hrz := hrow.lt
        clear hrow hrow0 hbox hbox2 b1 b1' hk hlt HMr
        go_wp2_with fail
        have HM2 : Hid (Mach W2 w0.heap.size Bt mb n1 n2 s l v1 (.slice (some ⟨fb, fo, none⟩) n2 fc) v3 xv xf xt xp) := HM.out.below hwr0
        have HB2 : Hid (Below w0.heap.size w W2) := hwr0.mono hB
        clear HM hwr hwr0 hB1 b1r
        go_loopw [69] (fun t wr => ∃ j : Nat, j ≤ k ∧ t = .int .i64 j ∧ Mach wr w0.heap.size Bt mb n1 n2 (putN s f.params (givenD s args) j) l v1 (.slice (some ⟨fb, fo, none⟩) n2 fc) v3 xv xf xt xp ∧ wr.rowIs W1.heap.size 176 k (givV l s args k) ∧ wr.heap[w.heap.size]? = some (.cells #[.string S0, .slice pa k pc, .int .i64 z] 83 (0, 0)) ∧ Below w0.heap.size w wr) (fun t _ => (k - intOf t).toNat)
        case atStart => exact ⟨0, Nat.zero_le _, rfl, HM2.out, HR.out, HBX.out, HB2.out⟩
        case round =>
          clear HM2 HR HBX HB2
          obtain ⟨j, hj, rfl, hM, hrow, hbox, hwr⟩ := hrel
          by_cases hlt : j < k
          · obtain ⟨b, o, rfl, e0⟩ := HPI.out wr hwr j hlt
            obtain ⟨p0, p1⟩ := HF.out.ps j (by rw [← HLP.out]; exact hlt)
            obtain ⟨a, ha⟩ : ∃ a, a = (f.params.getD j 0).toNat := ⟨_, rfl⟩
            have haz : f.params.getD j 0 = (a : Int) := by omega
            have han : a < n1 := by omega
            rw [haz] at e0
            obtain ⟨-, -, -, c3, -⟩ := hM.cellsM
            obtain ⟨g0, cap, rfl, hvr, cs, hgb⟩ := hM.vrow (by omega)
            have e1 := hvr a han
            unfold ptrV at e1
            have hcell := (hM.cells (.var a) han).2
            obtain ⟨-, -, e2, e2f⟩ := cell_kind (hM.cells (.var a) han)
            have HP : Hid (Mach (wr.setCell ⟨l.at (.var a), 2, none⟩ (hasV l ((givenD s args).getD j none))) w0.heap.size Bt mb n1 n2 (putN s f.params (givenD s args) (j + 1)) l v1 (.slice (some ⟨fb, fo, none⟩) n2 fc) v3 (.slice (some ⟨g0, 0, none⟩) n1 cap) xf xt xp) := by
              have := hM.put (r := .var a) han rfl (x := (givenD s args).getD j none) (by rw [putN_things]; exact HGO.out j)
              show Mach _ _ _ _ _ _ _ _ _ _ _ _ _ _ _
              unfold putN
              rw [← ha]
              exact this
            have e3 := hrow.cell hlt
            rw [HLM.out, giv_last l s args j (by rw [← HLM.out]; exact hlt)] at e3
            obtain ⟨hv, hhv⟩ : ∃ v, .pointer v = hasV l ((givenD s args).getD j none) := ⟨_, rfl⟩
            rw [← hhv] at e3 HP
            obtain ⟨ab, hab⟩ : ∃ b, b = l.at (.var a) := ⟨_, rfl⟩
            obtain ⟨u, hu⟩ : ∃ v, .pointer v = hasV l ((putN s f.params (givenD s args) j).get (.var a)) := ⟨_, rfl⟩
            rw [← hab] at e1 e2 e2f hcell HP
            rw [← hu] at e2
            obtain ⟨rc, hrc1, hrc2, hrc3⟩ := hrow
            have n1' : mb ≠ ab := ne_block hM.blk hcell (by decide)
            have n2' : g0 ≠ ab := ne_block hgb hcell (by decide)
            have n3' : W1.heap.size ≠ ab := ne_block hrc1 hcell (by decide)
            have hji : (j : Int) < k := by omega
            have hai : (a : Int) < n1 := by omega
            have HR : Hid (wr.rowIs W1.heap.size 176 k (givV l s args k)) := ⟨rc, hrc1, hrc2, hrc3⟩
            have HBX : Hid ((wr.setCell ⟨ab, 2, none⟩ (.pointer hv)).heap[w.heap.size]? = some (.cells #[.string S0, .slice (some ⟨b, o, none⟩) k pc, .int .i64 z] 83 (0, 0))) := by
              show _ = _
              rw [set_other _ _ _ _ _ (ne_block hbox hcell (by decide)).symm]
              exact hbox
            have HL : Hid (w0.heap.size ≤ ab) := by show _ ≤ _; rw [hab]; exact (hM.cells (.var a) han).1
            clear hM hrc1 hrc2 hrc3 hgb hcell hvr hbox ha haz hhv hab hu p0 p1
            go_upto_region 12 with fail
            go_region_held3 (fun wx => wx.cell? ⟨mb, 3, none⟩ = some (.slice (some ⟨g0, 0, none⟩) n1 cap) ∧ wx.cell? ⟨g0, a, none⟩ = some (.pointer (some ⟨ab, 0, none⟩)) ∧ wx.cell? ⟨W1.heap.size, j, none⟩ = some (.pointer hv))
              ((go_split_ands; first | exact ⟨c3, e1, e3⟩ | exact ⟨other_cell c3 n1', other_cell e1 n2', other_cell e3 n3'⟩))
              (fail)
            go_wp2_with fail
            go_roundw
            case rel =>
              refine ⟨j + 1, hlt, by go_num, ?_, ?_, ?_, ?_⟩
              · exact HP.out.below (Below.refl _ _).drew
              · exact (HR.out.setOther n3' _).drew
              · exact HBX.out
              · exact (hwr.setCell HL.out _).drew
            case measure => simp [intOf]; omega
          · have hjn : j = k := by omega
            subst hjn
            have hxn := HX.out
            obtain ⟨a, ha⟩ : ∃ a, a = z.toNat := ⟨_, rfl⟩
            have hr0 := HF.out.r0
            have hr1 := HF.out.r1
            rw [← HLZ.out] at hr0 hr1
            have haz : z = (a : Int) := by omega
            have han : a < n1 := by omega
            obtain ⟨-, -, -, c3, -⟩ := hM.cellsM
            obtain ⟨g0, cap, rfl, hvr, cs, hgb⟩ := hM.vrow (by omega)
            have e1 := hvr a han
            unfold ptrV at e1
            have hcell := (hM.cells (.var x) hxn).2
            obtain ⟨-, -, e2, -⟩ := cell_kind (hM.cells (.var a) han)
            obtain ⟨-, -, x2, x2f⟩ := cell_kind (hM.cells (.var x) hxn)
            rw [← HXB.out] at x2 x2f hcell
            have hS : enterD f s x args = (putN s f.params (givenD s args) j).put (.var x) ((putN s f.params (givenD s args) j).get (.var a)) := by
              unfold enterD
              rw [if_pos (by rw [← HLM.out, ← HLP.out]), ← HLM.out, ha, HLZ.out]
            have HP : Hid (Mach (wr.setCell ⟨xb, 2, none⟩ (hasV l ((putN s f.params (givenD s args) j).get (.var a)))) w0.heap.size Bt mb n1 n2 (enterD f s x args) l v1 (.slice (some ⟨fb, fo, none⟩) n2 fc) v3 (.slice (some ⟨g0, 0, none⟩) n1 cap) xf xt xp) := by
              have := hM.put (r := .var x) hxn rfl (hM.get_ok (.var a))
              rw [← HXB.out] at this
              show Mach _ _ _ _ _ _ _ _ _ _ _ _ _ _ _
              rw [hS]
              exact this
            obtain ⟨hv, hhv⟩ : ∃ v, .pointer v = hasV l ((putN s f.params (givenD s args) j).get (.var a)) := ⟨_, rfl⟩
            rw [← hhv] at e2 HP
            obtain ⟨ab, hab⟩ : ∃ b, b = l.at (.var a) := ⟨_, rfl⟩
            obtain ⟨u, hu⟩ : ∃ v, .pointer v = hasV l ((putN s f.params (givenD s args) j).get (.var x)) := ⟨_, rfl⟩
            rw [← hab] at e1 e2
            rw [← hu] at x2
            have n1' : mb ≠ xb := ne_block hM.blk hcell (by decide)
            have n2' : g0 ≠ xb := ne_block hgb hcell (by decide)
            have n3' : w.heap.size ≠ xb := ne_block hbox hcell (by decide)
            have hai : (a : Int) < n1 := by omega
            have b2 : wr.cell? ⟨w.heap.size, 2, none⟩ = some (.int .i64 (a : Int)) := by rw [Lib.cell_of_heap hbox, haz]; rfl
            have HL : Hid (w0.heap.size ≤ xb) := by show _ ≤ _; rw [HXB.out]; exact (hM.cells (.var x) hxn).1
            clear hM hgb hcell hvr hbox ha hhv hab hu hr0 hr1 hS hrow hj hlt haz HPI HAO HA
            go_upto_region 14 with fail
            go_region_held3 (fun wx => wx.cell? ⟨mb, 3, none⟩ = some (.slice (some ⟨g0, 0, none⟩) n1 cap) ∧ wx.cell? ⟨g0, a, none⟩ = some (.pointer (some ⟨ab, 0, none⟩)) ∧ wx.cell? ⟨w.heap.size, 2, none⟩ = some (.int .i64 (a : Int)) ∧ wx.cell? ⟨ab, 2, none⟩ = some (.pointer hv))
              ((go_split_ands; first | exact ⟨c3, e1, b2, e2⟩ | exact ⟨other_cell c3 n1', other_cell e1 n2', other_cell b2 n3', cell_set_same e2⟩))
              (fail)
            go_wp2_with fail
            refine bodyPost_end (results_none rfl _ _ _) rfl ?_
            exact ⟨rfl, HP.out.below (Below.refl _ _).drew, (hwr.setCell HL.out _).drew⟩
  · have hg' : ¬ ((np : Int) = (m : Int)) := by omega
    go_wp2_with fail
    refine bodyPost_ret (results_none rfl _ _ _) rfl ?_
    refine ⟨rfl, ?_, hB1.mono hB⟩
    have : enterD f s x args = s := by unfold enterD; rw [if_neg (by rw [← HLM.out, ← HLP.out]; exact hg)]
    rw [this]
    exact HM.out.below hB1

theorem call_any {w0 w : World} {Bt mb n1 : Nat} {s : StD} {l : Lay} {v1 v2 v3 xv xf xt xp : Value} (fs : List FunD) (h : Mach w w0.heap.size Bt mb n1 fs.length s l v1 v2 v3 xv xf xt xp) (hw : Below w0.heap.size w0 w) (hF : IsFuns w0 v2 fs) (hf : ∀ i, i < fs.length → FunOk n1 (fs.getD i default))
    (x : Nat) (hx : x < n1) (c : Option Ref) (hc : OkO n1 fs.length s.things.length c) (av : Value) (args : List Int) (hA : IsInts w0 av args) (hal : args.length ≤ 1000000) (hao : ∀ j, j < args.length → 0 ≤ args.getD j 0 ∧ args.getD j 0 < (n1 : Int)) :
    Calls Tryz.prog 129 #[.pointer (some ⟨mb, 0, none⟩), ptrV (l.at (.var x)), hasV l c, av] w fun e w' => e = .returned (.tuple #[]) ∧ Mach w' w0.heap.size Bt mb n1 fs.length (callD fs s x args c) l v1 v2 v3 xv xf xt xp ∧ Below w0.heap.size w w' := by
  have none_way : (∀ r, c = some r → r.isFn = false) → callD fs s x args c = s → Calls Tryz.prog 129 #[.pointer (some ⟨mb, 0, none⟩), ptrV (l.at (.var x)), hasV l c, av] w fun e w' => e = .returned (.tuple #[]) ∧ Mach w' w0.heap.size Bt mb n1 fs.length (callD fs s x args c) l v1 v2 v3 xv xf xt xp ∧ Below w0.heap.size w w' := fun hn he => by
    refine (call_none mb (l.at (.var x)) l c av (fun r hr => ⟨hn r hr, (cell_kind (h.cells r (hc r hr))).1⟩)).mono ?_
    rintro e w' ⟨he', hw'⟩
    rw [hw', he]
    exact ⟨he', h, Below.refl _ _⟩
  rcases c with _ | i | i | i
  · exact none_way (fun r hr => by cases hr) rfl
  · exact none_way (fun r hr => by cases hr; rfl) rfl
  · exact none_way (fun r hr => by cases hr; rfl) rfl
  · exact call_fn fs h hw hF i (hc (.fn i) rfl) _ rfl (hf i (hc (.fn i) rfl)) x hx av args hA hal hao
end Go.Proofs.YteekjigaicmohaaGreatDoor
