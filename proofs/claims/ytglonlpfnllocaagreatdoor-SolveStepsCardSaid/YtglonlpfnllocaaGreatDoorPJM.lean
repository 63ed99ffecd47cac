/-
  Package prog: places, Objects, Nodes, Fun, Place, by contracts.
-/
import Derived.Test.YtglonlpfnllocaaGreatDoorPIM
namespace Go.Proofs.YtglonlpfnllocaaGreatDoor
open Go.RowKit Go.Extern.Stop Go.Stop Go.Extern

theorem ErrV.cases {w : World} {a : Nat → Addr} {e : ErrD} {v : Value} (h : ErrV w a e v) : (e.isNone = true ∧ v = .nilIface) ∨ (e.isNone = false ∧ ∃ t x, v = .iface t (.pointer (some x))) := by
  rcases h with ⟨rfl, rfl⟩ | ⟨i, rfl, rfl⟩ | ⟨i, n, b, o, rfl, _, rfl, _⟩
  · exact Or.inl ⟨rfl, rfl⟩
  · exact Or.inr ⟨rfl, _, _, rfl⟩
  · exact Or.inr ⟨rfl, _, _, rfl⟩
theorem places_succ (P : ProgD) (k : Nat) (h : k < P.stmts.length) : places P (k + 1) = places P k + (if (P.stmts.getD k default).kind == kNew then 1 else 0) := by
  have e : P.stmts.getD k default = P.stmts[k] := by simp [List.getD, h]
  unfold places
  rw [List.take_succ_eq_append_getElem h, List.filter_append, List.length_append, e, List.filter_cons, List.filter_nil]
  split <;> simp [*]; try omega
theorem places_le (P : ProgD) (k : Nat) : places P k ≤ P.vars.length + k := by
  unfold places
  have h1 := List.length_filter_le (fun s : StmtD => s.kind == kNew) (P.stmts.take k)
  have h2 := List.length_take_le k P.stmts
  omega

set_option maxHeartbeats 2000000 in
theorem places_any (P : ProgD) (k : Nat) (v1 v2 v3 : Value) (w : World) (hs : SmallP P) (h : IsProg w v1 v2 v3 P) (hk : k ≤ P.stmts.length) :
    Calls Tryz.prog 60 #[.agg #[v1, v2, v3], .int .i64 (k : Int)] w fun e w' => e = .returned (.int .i64 (places P k : Int)) ∧ Below w.heap.size w w' := by
  have H : Hid (IsProg w v1 v2 v3 P) := h
  have HS : Hid (SmallP P) := hs
  have hcap : ∃ a c, v3 = .slice a P.stmts.length c ∧ P.stmts.length ≤ c := by
    obtain ⟨a, c, e1, e2, _⟩ := h.stmts
    exact ⟨a, c, e1, e2⟩
  obtain ⟨⟨a1, c1, rfl, -, -⟩, ⟨a2, c2, rfl, -, -⟩, -⟩ := h
  obtain ⟨a3, c3, rfl, hc3⟩ := hcap
  have hs1 := hs.1
  have hs3 := hs.2.2.1
  clear hs
  have HPL : Hid (∀ j, places P j ≤ P.vars.length + j) := places_le P
  have HP0 : Hid (places P 0 = P.vars.length) := by
    show places P 0 = P.vars.length
    unfold places; simp
  generalize hn1 : P.vars.length = n1 at *
  generalize hn2 : P.funs.length = n2 at *
  generalize hn3 : P.stmts.length = n3 at *
  have HN : Hid (P.vars.length = n1 ∧ P.funs.length = n2 ∧ P.stmts.length = n3) := ⟨hn1, hn2, hn3⟩
  clear hn1 hn2 hn3
  obtain ⟨R, hR⟩ : ∃ R, R = places P k := ⟨_, rfl⟩
  rw [← hR]
  have HR : Hid (R = places P k) := hR
  clear hR
  have hkc : k ≤ c3 := by omega
  go_enter Tryz.func60, Tryz.ntmps60
  go_wp2_with fail
  go_loopw [5, 16] (fun u t wr => ∃ j : Nat, j ≤ k ∧ t = .int .i64 j ∧ u = .int .i64 (places P j : Nat) ∧ Below w.heap.size w wr) (fun _ t _ => (k - intOf t).toNat)
  case atStart => exact ⟨0, Nat.zero_le _, rfl, by rw [HP0.out], below1 w _⟩
  case round =>
    obtain ⟨j, hj, rfl, rfl, hB⟩ := hrel
    have hpl := HPL.out j
    by_cases hlt : j < k
    · have hl : j < P.stmts.length := by rw [HN.out.2.2]; omega
      have hps := places_succ P j hl
      obtain ⟨_, _, hv3, _, hst3⟩ := (H.out.below hB).stmts
      obtain ⟨b, o, ha3, e0⟩ := hst3 j hl
      obtain rfl : a3 = some ⟨b, o, none⟩ := by rw [← ha3]; exact (Value.slice.inj hv3).1
      obtain ⟨z, hze⟩ : ∃ z, z = P.stmts.getD j default := ⟨_, rfl⟩
      rw [← hze] at e0 hps
      obtain ⟨pv, q1, q2, q3, q4, -, pa, pc, rfl, -⟩ := e0
      obtain ⟨kb, hkb⟩ : ∃ kb, kb = S z.kind := ⟨_, rfl⟩
      rw [← hkb] at q1
      obtain ⟨p0, hp0⟩ : ∃ p0, p0 = places P j := ⟨_, rfl⟩
      rw [← hp0] at hps hpl ⊢
      have HPS : Hid (places P (j + 1) = p0 + if (z.kind == kNew) = true then 1 else 0) := hps
      have HKB : Hid (kb = S z.kind) := hkb
      clear hps hv3 hst3 ha3 hze hl hkb hp0
      by_cases hn : kb.toList = [110, 101, 119]
      · have HX : Hid (places P (j + 1) = p0 + 1) := by
          show places P (j + 1) = _
          have : z.kind = kNew := by rw [← S_toList z.kind, ← HKB.out]; exact hn
          rw [HPS.out, this]; rfl
        clear HPS HKB
        go_wp2_with fail
        go_roundw
        case rel => exact ⟨j + 1, hlt, by go_num, by rw [HX.out]; go_num, hB.alloc hB.size _⟩
        case measure => simp [intOf]; omega
      · have HX : Hid (places P (j + 1) = p0) := by
          show places P (j + 1) = _
          have : (z.kind == kNew) = false := beq_eq_false_iff_ne.2 fun e => hn (by rw [HKB.out, S_toList, e]; rfl)
          rw [HPS.out, this]; rfl
        have hg : (kb.toList == [110, 101, 119]) = false := beq_eq_false_iff_ne.2 hn
        clear HPS HKB hn
        go_wp2_with fail
        go_roundw
        case rel => exact ⟨j + 1, hlt, by go_num, by rw [HX.out], hB.alloc hB.size _⟩
        case measure => simp [intOf]; omega
    · have hjk : j = k := by omega
      subst hjk
      rw [← HR.out]
      go_wp2_with fail
      go_ret
      exact ⟨rfl, hB⟩

def objD (P : ProgD) : Int := if (checkE P).isNone = true then ((places P P.stmts.length + P.funs.length : Nat) : Int) else 0
def nodesD (P : ProgD) : Int := if (checkE P).isNone = true then ((places P P.stmts.length : Nat) : Int) else 0
def funD (P : ProgD) (o : Int) : Int := if (checkE P).isNone = true then (if o < ((places P P.stmts.length : Nat) : Int) ∨ ((places P P.stmts.length : Nat) : Int) + (P.funs.length : Int) ≤ o then -1 else o - ((places P P.stmts.length : Nat) : Int)) else -1
def placeD (P : ProgD) (k : Int) : Int := if (checkE P).isNone = true then (if 0 ≤ k ∧ k < (P.stmts.length : Int) ∧ (P.stmts.getD k.toNat default).kind = kNew then ((places P k.toNat : Nat) : Int) else -1) else -1

theorem funD_no {P : ProgD} {o : Int} (h : false = (checkE P).isNone) : funD P o = -1 := by unfold funD; rw [← h]; rfl
theorem funD_out {P : ProgD} {o : Int} (h : true = (checkE P).isNone) (g : o < ((places P P.stmts.length : Nat) : Int) ∨ ((places P P.stmts.length : Nat) : Int) + (P.funs.length : Int) ≤ o) : funD P o = -1 := by unfold funD; rw [← h, if_pos rfl, if_pos g]
theorem funD_in {P : ProgD} {o : Int} (h : true = (checkE P).isNone) (g : ¬ (o < ((places P P.stmts.length : Nat) : Int) ∨ ((places P P.stmts.length : Nat) : Int) + (P.funs.length : Int) ≤ o)) : funD P o = o - ((places P P.stmts.length : Nat) : Int) := by unfold funD; rw [← h, if_pos rfl, if_neg g]
theorem objD_no {P : ProgD} (h : false = (checkE P).isNone) : objD P = 0 := by unfold objD; rw [← h]; rfl
theorem objD_in {P : ProgD} (h : true = (checkE P).isNone) : objD P = ((places P P.stmts.length : Nat) : Int) + (P.funs.length : Int) := by unfold objD; rw [← h, if_pos rfl]; omega
theorem placeD_no {P : ProgD} {k : Int} (h : false = (checkE P).isNone) : placeD P k = -1 := by unfold placeD; rw [← h]; rfl
theorem placeD_out {P : ProgD} {k : Int} (h : true = (checkE P).isNone) (g : ¬ (0 ≤ k ∧ k < (P.stmts.length : Int) ∧ (P.stmts.getD k.toNat default).kind = kNew)) : placeD P k = -1 := by unfold placeD; rw [← h, if_pos rfl, if_neg g]
theorem placeD_in {P : ProgD} {k : Int} (h : true = (checkE P).isNone) (g : 0 ≤ k ∧ k < (P.stmts.length : Int) ∧ (P.stmts.getD k.toNat default).kind = kNew) : placeD P k = ((places P k.toNat : Nat) : Int) := by unfold placeD; rw [← h, if_pos rfl, if_pos g]

set_option maxHeartbeats 2000000 in
theorem nodes_any (a : Nat → Addr) (P : ProgD) (v1 v2 v3 : Value) (w : World) (hs : SmallP P) (h : IsProg w v1 v2 v3 P) (hE : Errs5 w a) :
    Calls Tryz.prog 27 #[.agg #[v1, v2, v3]] w fun e w' => e = .returned (.int .i64 (nodesD P)) ∧ Below w.heap.size w w' := by
  have H : Hid (IsProg w v1 v2 v3 P) := h
  have HE : Hid (Errs5 w a) := hE
  have HS : Hid (SmallP P) := hs
  obtain ⟨⟨a1, c1, rfl, -, -⟩, ⟨a2, c2, rfl, -, -⟩, ⟨a3, c3, rfl, -, -⟩⟩ := h
  clear hE hs
  obtain ⟨E, hEe⟩ : ∃ E, E = (checkE P).isNone := ⟨_, rfl⟩
  have hr : nodesD P = if E = true then ((places P P.stmts.length : Nat) : Int) else 0 := by unfold nodesD; rw [hEe]
  rw [hr]
  have QE : Hid (E = (checkE P).isNone) := hEe
  clear hEe hr
  go_enter Tryz.func27, Tryz.ntmps27
  go_wp2_with fail
  refine (check_any a P _ _ _ _ HS.out (H.out.below (below1 w _)) (HE.out.below (below1 w _))).mono ?_
  rintro e w1 ⟨v', rfl, hv, hB1⟩
  have hBw : Below w.heap.size w w1 := (below1 w _).trans (hB1.mono (below1 w _).size)
  have hbx := (box3_new w (.slice a1 P.vars.length c1) (.slice a2 P.funs.length c2) (.slice a3 P.stmts.length c3) 26).below hB1
  obtain ⟨b0, b1, b2⟩ := hbx
  rcases hv.cases with ⟨h1, rfl⟩ | ⟨h1, t, x, rfl⟩
  · rw [← QE.out] at h1
    subst h1
    clear hv hB1
    go_wp2_with fail
    refine (places_any P P.stmts.length _ _ _ w1 HS.out (H.out.below hBw) (Nat.le_refl _)).mono ?_
    rintro e w2 ⟨rfl, hB2⟩
    have hBx := hBw.trans (hB2.mono hBw.size)
    clear hB2
    go_wp2_with fail
    go_ret
    exact ⟨rfl, hBx⟩
  · rw [← QE.out] at h1
    subst h1
    clear hv hB1
    go_wp2_with fail
    go_ret
    exact ⟨rfl, hBw⟩
end Go.Proofs.YtglonlpfnllocaaGreatDoor
