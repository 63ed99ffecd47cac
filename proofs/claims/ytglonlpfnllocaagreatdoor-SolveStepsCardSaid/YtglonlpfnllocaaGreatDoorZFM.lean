/-
  A row of rows of numbers, all of one's own and apart: a number, or many, behind one of them.
-/
import Derived.Test.YtglonlpfnllocaaGreatDoorDKM
import Derived.Test.YtglonlpfnllocaaGreatDoorXFM
import Derived.Test.YtglonlpfnllocaaGreatDoorCBM
import Derived.Test.YtglonlpfnllocaaGreatDoorXMM
import Derived.Deep.RegionHeld3
import Derived.Deep.DrawnRows
import Derived.Test.YtglonlpfnllocaaGreatDoorXSM
namespace Go.Proofs.YtglonlpfnllocaaGreatDoor
open Go.RowKit Go.Extern.Stop Go.Stop Go.Extern

/-- Numbers behind a row of one's own, and where it lies then. -/
theorem append_intsX (w : World) (base : Nat) (v : Value) (n : Nat) (xs : List Value) (hown : w.ownsRow base 3 1 v n xs) (x : Value) (zs : List Int) (hx : IsInts w x zs)
    (hbd : n + zs.length ≤ 1000000000000) (hbase : base ≤ w.heap.size) (ty : TypeId) :
    ∃ v' w', (Builtin.append_ #[40, 40] ty #[v, x]).run Tryz.prog w = .ok v' w' ∧ w'.ownsRow base 3 1 v' (n + zs.length) (xs ++ zs.map (Value.int .i64)) ∧ w.grownBy w' v.ownBlock ∧ (v'.ownBlock = v.ownBlock ∨ v'.ownBlock = some w.heap.size) := by
  obtain ⟨i0, hi, hz0, hz1, hz2⟩ := info_parts Tryz.infoIntS
  have some_case : ∀ (ad : Addr) (c : Nat), x = .slice (some ad) zs.length c → (∀ j u, (zs.map (Value.int .i64))[j]? = some u → w.cell? (ad.add j) = some u) →
      ∃ v' w', (Builtin.append_ #[40, 40] ty #[v, x]).run Tryz.prog w = .ok v' w' ∧ w'.ownsRow base 3 1 v' (n + zs.length) (xs ++ zs.map (Value.int .i64)) ∧ w.grownBy w' v.ownBlock ∧ (v'.ownBlock = v.ownBlock ∨ v'.ownBlock = some w.heap.size) := by
    intro ad c ex hc
    subst ex
    obtain ⟨v', w', h1, h2, h3, _, h5⟩ := run_append_own_at (P := Tryz.prog) w base 40 ty 3 i0 (.int .i64 0) 1 8 Tryz.underlying40 hi hz0 hz1 hz2 rfl (by decide) v n xs hown ad zs.length c (zs.map (Value.int .i64)) (by simp) hc
      (fun u hu => by obtain ⟨y, _, rfl⟩ := List.mem_map.1 hu; rfl) (by unfold maxLen; omega) (by omega) hbase
    exact ⟨v', w', h1, h2, h3, h5⟩
  rcases hx with ⟨hz, a, c, rfl⟩ | ⟨hz, b, o, c, rfl, hc⟩
  · subst hz
    cases a with
    | some ad => exact some_case ad c rfl (fun j u hj => by simp at hj)
    | none =>
      clear some_case
      rcases hown.2 with ⟨rfl, rfl⟩ | ⟨g, cap, cur, rfl, hb, hg, hnc, hcm, hs, ht⟩
      · refine ⟨.slice none 0 0, w, ?_, by simpa using hown, ⟨rfl, rfl, rfl, Nat.le_refl _, fun _ _ _ => rfl⟩, Or.inl rfl⟩
        simp [Builtin.append_, run_underlying Tryz.underlying40, sizeOf, typeInfo, hi, Builtin.lenOf, Builtin.firstCells]
      · refine ⟨.slice (some ⟨g, 0, none⟩) n cap, w, ?_, by simpa using hown, ⟨rfl, rfl, rfl, Nat.le_refl _, fun _ _ _ => rfl⟩, Or.inl rfl⟩
        simp [Builtin.append_, run_underlying Tryz.underlying40, sizeOf, typeInfo, hi, Builtin.lenOf, Builtin.firstCells, hnc, storeCells]
  · refine some_case ⟨b, o, none⟩ c rfl (fun j u hj => ?_)
    have hjl : j < zs.length := by have := (List.getElem?_eq_some_iff.1 hj).1; simpa using this
    rw [Addr.add_lit, hc j hjl]
    rw [← hj]
    simp [List.getD, hjl]
/-- A row of numbers more behind row k: the run of the append, and what is stored then. -/
theorem Rows2.more {w0 w : World} {g : Nat} {zss : List (List Int)} {us : List Value} (h : Rows2 w w0.heap.size g zss us) (hw : Below w0.heap.size w0 w) (k : Nat) (hk : k < zss.length) (x : Value) (zs : List Int) (hx : IsInts w x zs) (hbd : (zss.getD k []).length + zs.length ≤ 1000000000000) (ty : TypeId) :
    ∃ va vn vc w', (Builtin.append_ #[40, 40] ty #[us.getD k .nilIface, x]).run Tryz.prog w = .ok (.slice va vn vc) w' ∧ vn = ((zss.getD k []) ++ zs).length ∧ Rows2 (w'.setCell ⟨g, k, none⟩ (.slice va vn vc)) w0.heap.size g (zss.set k ((zss.getD k []) ++ zs)) (us.set k (.slice va vn vc)) ∧ Below w0.heap.size w w' ∧ KeepBut w w' (us.getD k .nilIface).ownBlock := by
  obtain ⟨v', w', hr, ho, hg, hb⟩ := append_intsX w w0.heap.size _ _ _ (h.own k hk) x zs hx hbd hw.size ty
  obtain ⟨va, vc, rfl⟩ := owns_form ho
  refine ⟨va, _, vc, w', hr, by rw [List.length_append], ?_, below_of_grownS hg hw.size (h.own k hk) (Nat.le_refl _), KeepBut.of_grown hg⟩
  refine h.put k hk _ _ (KeepBut.of_grown hg) ?_ ?_
  · rw [List.length_append, List.map_append]; exact ho
  · rcases hb with q | q
    · exact Or.inl q
    · right
      intro g' hg'
      rw [q] at hg'
      injection hg' with e
      omega
theorem make_rows (n : Nat) (hn : n ≤ 1000000) (w : World) : (Instr.makeSlice 36 (.int .i64 (n : Int)) (.int .i64 (n : Int))).run Tryz.prog w = .ok (.slice (some ⟨w.heap.size, 0, none⟩) n n) (w.alloc (.cells (Array.replicate n (Value.slice none 0 0)) TSI)) := by
  obtain ⟨i, hi, hz, hs, hb⟩ := info_parts Tryz.infoInts
  have := run_make (P := Tryz.prog) w 36 TSI i _ Tryz.underlying36 hi hz .i64 .i64 n n (by omega) (Int.le_refl _) (by rw [hb]; omega) (by omega)
  simp only [Int.toNat_natCast, hs, Nat.mul_one] at this
  rw [this, show madeCells (Value.slice none 0 0).cells n = (Array.replicate n (Value.slice none 0 0)) from by rw [← List.toArray_replicate, ← toList_madeCells_one, Array.toArray_toList]; rfl]
theorem getD_replicateR {α : Type} (n : Nat) (x d : α) (j : Nat) (hj : j < n) : (List.replicate n x).getD j d = x := by simp [List.getD, hj]
theorem Rows2.make (w : World) (n : Nat) : Rows2 (w.alloc (.cells (Array.replicate n (Value.slice none 0 0)) TSI)) w.heap.size w.heap.size (List.replicate n []) (List.replicate n (.slice none 0 0)) := by
  refine ⟨Nat.le_refl _, by simp, by rw [List.toArray_replicate]; exact heap_new w _, fun j hj => ?_, fun i j hi hj hij => ?_⟩
  · rw [List.length_replicate] at hj
    rw [getD_replicateR _ _ _ _ hj, getD_replicateR _ _ _ _ hj]
    exact World.ownsRow_nil _ _ _ _
  · rw [List.length_replicate] at hi hj
    rw [getD_replicateR _ _ _ _ hj]
    exact Or.inl rfl
end Go.Proofs.YtglonlpfnllocaaGreatDoor

/-
  Package fix, gather: plain.
-/
namespace Go.Proofs.YtglonlpfnllocaaGreatDoor
open Go.RowKit Go.Extern.Stop Go.Stop Go.Extern

/-- What a node has gathered. -/
def gotAt (hs : List (List Int)) (rs : List RuleD) (es : List Pair) (j : Nat) : List Int :=
  hs.getD j [] ++ (rs.filter fun r => r.kind == kBase && r.a == (j : Int)).map (·.b) ++ (es.filter fun p => p.2 == (j : Int)).flatMap fun p => setAt hs p.1
def gotK (hs : List (List Int)) (rs : List RuleD) (es : List Pair) : List (List Int) := (List.range hs.length).map (gotAt hs rs es)
theorem gotK_len (hs : List (List Int)) (rs : List RuleD) (es : List Pair) : (gotK hs rs es).length = hs.length := by simp [gotK]
theorem gotK_at (hs : List (List Int)) (rs : List RuleD) (es : List Pair) (j : Nat) (hj : j < hs.length) : (gotK hs rs es).getD j [] = gotAt hs rs es j := by simp [gotK, List.getD, hj]
theorem gotK_start (hs : List (List Int)) : gotK hs [] [] = hs := by
  refine sets_eq (gotK_len _ _ _) fun j hj => ?_
  rw [gotK_len] at hj
  rw [gotK_at _ _ _ _ hj]
  simp [gotAt]
theorem gotK_set (hs : List (List Int)) (rs rs' : List RuleD) (es es' : List Pair) (k : Nat) (hk : k < hs.length) (zs : List Int) (h1 : gotAt hs rs' es' k = gotAt hs rs es k ++ zs) (h2 : ∀ j, j ≠ k → gotAt hs rs' es' j = gotAt hs rs es j) :
    (gotK hs rs es).set k ((gotK hs rs es).getD k [] ++ zs) = gotK hs rs' es' := by
  refine sets_eq (by rw [List.length_set, gotK_len, gotK_len]) fun j hj => ?_
  rw [List.length_set, gotK_len] at hj
  rw [gotK_at _ _ _ _ hk, gotK_at hs rs' es' j hj]
  by_cases e : j = k
  · subst e
    rw [h1]
    simp [List.getD, gotK_len, hj]
  · rw [getD_set_otherE _ _ _ _ _ (fun q => e q.symm), gotK_at _ _ _ _ hj, h2 j e]
theorem gotK_base (hs : List (List Int)) (rs : List RuleD) (r : RuleD) (hk : r.kind = kBase) (k : Nat) (ha : r.a = (k : Int)) (hl : k < hs.length) : (gotK hs rs []).set k ((gotK hs rs []).getD k [] ++ [r.b]) = gotK hs (rs ++ [r]) [] :=
  gotK_set hs rs (rs ++ [r]) [] [] k hl [r.b] (by simp [gotAt, List.filter_append, hk, ha]) (fun j hj => by
    have : ¬ r.a = (j : Int) := by omega
    simp [gotAt, List.filter_append, this])
theorem gotK_skip (hs : List (List Int)) (rs : List RuleD) (r : RuleD) (hk : r.kind ≠ kBase) : gotK hs (rs ++ [r]) [] = gotK hs rs [] := by
  unfold gotK
  congr 1
  funext j
  simp [gotAt, List.filter_append, hk]
theorem gotK_edge (hs : List (List Int)) (rs : List RuleD) (es : List Pair) (p : Pair) (k : Nat) (ha : p.2 = (k : Int)) (hl : k < hs.length) : (gotK hs rs es).set k ((gotK hs rs es).getD k [] ++ setAt hs p.1) = gotK hs rs (es ++ [p]) :=
  gotK_set hs rs rs es (es ++ [p]) k hl (setAt hs p.1) (by simp [gotAt, List.filter_append, ha]) (fun j hj => by
    have : ¬ p.2 = (j : Int) := by omega
    simp [gotAt, List.filter_append, this])
theorem setAt_len {hs : List (List Int)} {c : Nat} (h : ∀ j, j < hs.length → (hs.getD j []).length ≤ c) (k : Int) : (setAt hs k).length ≤ c := by
  unfold setAt
  by_cases hk : k.toNat < hs.length
  · exact h _ hk
  · rw [getD_none _ _ hk]; exact Nat.zero_le _
theorem gotAt_len {hs : List (List Int)} (rs : List RuleD) (es : List Pair) {c : Nat} (h : ∀ j, j < hs.length → (hs.getD j []).length ≤ c) (j : Nat) (hj : j < hs.length) : (gotAt hs rs es j).length ≤ c + rs.length + (es.filter fun p => p.2 == (j : Int)).length * c := by
  unfold gotAt
  rw [List.length_append, List.length_append, List.length_map]
  have h1 := h j hj
  have h2 := (List.filter_sublist (p := fun r : RuleD => r.kind == kBase && r.a == (j : Int)) (l := rs)).length_le
  have h3 := flat_len (es.filter fun p => p.2 == (j : Int)) (fun p => setAt hs p.1) c (fun p _ => setAt_len h p.1)
  omega
/-- No more edges come to a node than there are nodes. -/
theorem into_len {es : List Pair} {n : Nat} (hu : es.Pairwise ltE) (h : ∀ p ∈ es, 0 ≤ p.1 ∧ p.1 < (n : Int)) (j : Nat) : (es.filter fun p => p.2 == (j : Int)).length ≤ n := by
  have hp : ((es.filter fun p => p.2 == (j : Int)).map (·.1)).Pairwise (· < ·) := by
    rw [List.pairwise_map, List.pairwise_filter]
    refine hu.imp ?_
    intro p q hlt h1 h2
    simp only [beq_iff_eq] at h1 h2
    unfold ltE at hlt
    omega
  have hm : ∀ x ∈ (es.filter fun p => p.2 == (j : Int)).map (·.1), x ∈ (List.range n).map (fun i : Nat => (i : Int)) := fun x hx => by
    obtain ⟨p, hp, rfl⟩ := List.mem_map.1 hx
    have := h p (List.mem_filter.1 hp).1
    exact List.mem_map.2 ⟨p.1.toNat, List.mem_range.2 (by omega), by omega⟩
  have := rise_len hp hm
  simpa using this
/-- What is gathered by the edges that lead somewhere is what a round gathers. -/
theorem gather_round {P : ProgD} {hs : List (List Int)} {es : List Pair} (he : EdgeSet (foundD P hs) es) : (gotK hs (rulesD P) es).map norm = roundD P hs := by
  refine sets_eq (by rw [List.length_map, gotK_len, roundD_len]) fun j hj => ?_
  rw [List.length_map, gotK_len] at hj
  rw [roundD_at P hs j hj, show ((gotK hs (rulesD P) es).map norm).getD j [] = norm ((gotK hs (rulesD P) es).getD j []) by simp [List.getD, gotK_len, hj], gotK_at _ _ _ _ hj]
  refine norm_congr fun x => ?_
  rw [gotD_mem]
  unfold gotAt
  rw [List.mem_append, List.mem_append, or_assoc, List.mem_map, List.mem_flatMap]
  constructor
  · rintro (h | ⟨r, hr, rfl⟩ | ⟨p, hp, hx⟩)
    · exact Or.inl h
    · obtain ⟨h1, h2⟩ := List.mem_filter.1 hr
      simp only [Bool.and_eq_true, beq_iff_eq] at h2
      exact Or.inr (Or.inl ⟨r, h1, h2.1, h2.2, rfl⟩)
    · obtain ⟨h1, h2⟩ := List.mem_filter.1 hp
      exact Or.inr (Or.inr ⟨p, ((he.mem p).1 h1).1, by simpa using h2, hx⟩)
  · rintro (h | ⟨r, hr, h1, h2, rfl⟩ | ⟨p, hp, h1, hx⟩)
    · exact Or.inl h
    · exact Or.inr (Or.inl ⟨r, List.mem_filter.2 ⟨hr, by simp [h1, h2]⟩, rfl⟩)
    · by_cases e : p.1 = p.2
      · left
        unfold setAt at hx
        rw [e, h1] at hx
        simpa using hx
      · exact Or.inr (Or.inr ⟨p, List.mem_filter.2 ⟨(he.mem p).2 ⟨hp, e⟩, by simpa using h1⟩, hx⟩)
end Go.Proofs.YtglonlpfnllocaaGreatDoor

/-
  Package fix: gather, by a contract.
-/
namespace Go.Proofs.YtglonlpfnllocaaGreatDoor
open Go.RowKit Go.Extern.Stop Go.Stop Go.Extern
attribute [local go_sem ↓] Go.wp_at_zero Go.wp_at_succ

theorem clone_any (zs : List Int) (v : Value) (w : World) (hm : zs.length ≤ 1000000) (h : IsInts w v zs) :
    Calls Tryz.prog 33 #[v] w fun e w' => ∃ a c, e = .returned (.slice a zs.length c) ∧ w'.ownsRow w.heap.size 3 1 (.slice a zs.length c) zs.length (zs.map intV) ∧ Below w.heap.size w w' := by
  rcases h with ⟨rfl, a, c, rfl⟩ | ⟨hz, b, o, c, rfl, hc⟩
  · cases a with
    | none =>
      refine (Tryz.slices_Clone_int_nil 0 c w).mono ?_
      rintro e w' ⟨rfl, rfl⟩
      exact ⟨none, 0, rfl, World.ownsRow_nil _ _ _ _, Below.refl _ _⟩
    | some ad =>
      refine (Tryz.slices_Clone_int_zero ad c w).mono ?_
      rintro e w' ⟨v', rfl, h1, -, h2⟩
      obtain ⟨va, vc, rfl⟩ := owns_form h1
      exact ⟨va, vc, rfl, h1, h2⟩
  · refine (Tryz.slices_Clone_int b o zs.length c zs w (Nat.le_refl _) (by omega) hc).mono ?_
    rintro e w' ⟨v', rfl, h1, -, h2⟩
    rw [List.take_length] at h1
    obtain ⟨va, vc, rfl⟩ := owns_form h1
    exact ⟨va, vc, rfl, h1, h2⟩
theorem ownBlock_ge {w : World} {B : Nat} {e : TypeId} {k n : Nat} {v : Value} {xs : List Value} (h : w.ownsRow B e k v n xs) (g : Nat) (hg : v.ownBlock = some g) : B ≤ g := by
  rcases h.2 with ⟨rfl, _⟩ | ⟨g', cap, cur, rfl, hb, _⟩
  · cases hg
  · have : g' = g := by simpa [Value.ownBlock] using hg
    omega
/-- The first k of n rows. -/
def fillL (hs : List (List Int)) (k n : Nat) : List (List Int) := (List.range n).map fun j => if j < k then hs.getD j [] else []
theorem fillL_len (hs : List (List Int)) (k n : Nat) : (fillL hs k n).length = n := by simp [fillL]
theorem fillL_at (hs : List (List Int)) (k n j : Nat) (hj : j < n) : (fillL hs k n).getD j [] = if j < k then hs.getD j [] else [] := by simp [fillL, List.getD, hj]
theorem fillL_zero (hs : List (List Int)) (n : Nat) : fillL hs 0 n = List.replicate n [] := sets_eq (by simp [fillL]) fun j hj => by
  rw [fillL_len] at hj
  rw [fillL_at _ _ _ _ hj, getD_replicateR _ _ _ _ hj, if_neg (Nat.not_lt_zero _)]
theorem fillL_full (hs : List (List Int)) (n : Nat) (h : n = hs.length) : fillL hs n n = hs := sets_eq (by rw [fillL_len, h]) fun j hj => by
  rw [fillL_len] at hj
  rw [fillL_at _ _ _ _ hj, if_pos hj]
theorem fillL_set (hs : List (List Int)) (k n : Nat) (hk : k < n) : (fillL hs k n).set k (hs.getD k []) = fillL hs (k + 1) n := sets_eq (by rw [List.length_set, fillL_len, fillL_len]) fun j hj => by
  rw [List.length_set, fillL_len] at hj
  rw [fillL_at _ (k + 1) _ _ hj]
  by_cases e : j = k
  · subst e
    rw [if_pos (Nat.lt_succ_self _)]
    simp [List.getD, fillL_len, hj]
  · rw [getD_set_otherE _ _ _ _ _ (fun q => e q.symm), fillL_at _ _ _ _ hj]
    by_cases h : j < k
    · rw [if_pos h, if_pos (by omega)]
    · rw [if_neg h, if_neg (by omega)]
/-- At a step of a region that draws: numbers behind row k. -/
theorem step_more {ops : Array Oper} {o : Oper} {a : Act} {w : World} {K : Act → World → Prop} {Q : Exit → Act → World → Prop} {E : Prop} (hgd : o.guard = none) (s x : Operand)
    (ho : o.op = .call { callee := .builtin .append, args := #[s, x], argTypes := #[40, 40] }) {w0 : World} {g : Nat} {zss : List (List Int)} {us : List Value} (k : Nat) (ua : Option Addr) (un uc : Nat) (xv : Value) (zs : List Int)
    (hs : a.eval s = .slice ua un uc) (hxe : a.eval x = xv) (hR : Rows2 w w0.heap.size g zss us) (hw : Below w0.heap.size w0 w) (hk : k < zss.length) (hu : us.getD k .nilIface = .slice ua un uc) (hx : IsInts w xv zs) (hbd : (zss.getD k []).length + zs.length ≤ 1000000000000)
    (h : ∀ va vn vc w', Hid (Rows2 (w'.setCell ⟨g, k, none⟩ (.slice va vn vc)) w0.heap.size g (zss.set k (zss.getD k [] ++ zs)) (us.set k (.slice va vn vc)) ∧ Below w0.heap.size w0 (w'.setCell ⟨g, k, none⟩ (.slice va vn vc))) → KeepBut w w' (Value.slice ua un uc).ownBlock → Below w0.heap.size w0 w' → w'.cell? ⟨g, k, none⟩ = some (.slice ua un uc) → w'.frozen? ⟨g, k, none⟩ = false → K (a.put o.dst (.slice va vn vc)) w') :
    if Region.wanted o (yielded ops a.tmps) = true then Oper.wp Tryz.prog o a w K Q else E := by
  obtain ⟨va, vn, vc, w', hr, hvn, hR', hb, hkp⟩ := hR.more hw k hk xv zs hx hbd o.type
  rw [hu] at hr hkp
  have hg : w'.heap[g]? = some (.cells us.toArray TSI (0, 0)) := hkp g _ hR.blk (by have := hR.ne k hk; rw [hu] at this; exact this)
  have hku : k < us.length := by rw [hR.lu]; exact hk
  refine step_append_run hgd s x _ _ ho _ _ hs hxe _ w' hr (h va vn vc w' ⟨hR', (hw.trans hb).setCell hR.low _⟩ hkp (hw.trans hb) ?_ (Lib.frozen_of_heap hg k))
  rw [Lib.cell_of_heap hg, ← hu]
  simp [List.getD, hku]
theorem set_otherF (w : World) (g k : Nat) (x : Value) (b : Nat) (h : g ≠ b) : (w.setCell ⟨g, k, none⟩ x).heap[b]? = w.heap[b]? := by
  simp only [World.setCell, Array.getElem?_modify]
  rw [if_neg h]
/-- A block that is kept, and its cells. -/
theorem keepRule {w : World} {bx : Nat} {kd : ByteArray} {x1 x2 x3 : Int} {av : Value} (h : w.heap[bx]? = some (ruleBox kd x1 x2 x3 av)) : w.heap[bx]? = some (ruleBox kd x1 x2 x3 av) ∧ w.cell? ⟨bx, 1, none⟩ = some (.int .i64 x1) ∧ w.cell? ⟨bx, 2, none⟩ = some (.int .i64 x2) :=
  ⟨h, by rw [Lib.cell_of_heap h]; rfl, by rw [Lib.cell_of_heap h]; rfl⟩
theorem keepEdge {w0 w : World} {bx : Nat} {x1 x2 : Int} {hb ho : Nat} {hv : Value} (hB : Below w0.heap.size w0 w) (h : w.heap[bx]? = some (.cells #[.int .i64 x1, .int .i64 x2] TE (0, 0))) (h0 : w0.cell? ⟨hb, ho, none⟩ = some hv) :
    Below w0.heap.size w0 w ∧ w.heap[bx]? = some (.cells #[.int .i64 x1, .int .i64 x2] TE (0, 0)) ∧ w.cell? ⟨bx, 0, none⟩ = some (.int .i64 x1) ∧ w.cell? ⟨bx, 1, none⟩ = some (.int .i64 x2) ∧ w.cell? ⟨hb, ho, none⟩ = some hv :=
  ⟨hB, h, by rw [Lib.cell_of_heap h]; rfl, by rw [Lib.cell_of_heap h]; rfl, cell_keep hB h0⟩
theorem block_drew {w : World} {b : Nat} {o : Obj} (h : w.heap[b]? = some o) : w.drew.heap[b]? = some o := h
theorem block_al {w : World} {b : Nat} {o : Obj} (h : w.heap[b]? = some o) (o' : Obj) : (w.alloc o').heap[b]? = some o := block_keep (below1 w _) h
theorem block_but {w w' : World} {ob : Option Nat} {b : Nat} {o : Obj} (h : w.heap[b]? = some o) (hk : KeepBut w w' ob) (hne : ob ≠ some b) : w'.heap[b]? = some o := hk b o h hne
theorem block_st {w : World} {g k b : Nat} {x : Value} {o : Obj} (h : w.heap[b]? = some o) (hne : g ≠ b) : (w.setCell ⟨g, k, none⟩ x).heap[b]? = some o := by rw [set_otherF _ _ _ _ _ hne]; exact h

set_option maxRecDepth 100000 in
set_option maxHeartbeats 16000000 in
theorem gather_any (hs : List (List Int)) (rs : List RuleD) (es : List Pair) (hv rv ev : Value) (w : World) (hH : IsSets w hv hs) (hRs : IsRules w rv rs) (hEs : IsPairs w ev es)
    (hr : ∀ r ∈ rs, r.kind = kBase → 0 ≤ r.a ∧ r.a.toNat < hs.length) (he : ∀ p ∈ es, (0 ≤ p.1 ∧ p.1.toNat < hs.length) ∧ (0 ≤ p.2 ∧ p.2.toNat < hs.length))
    (hn : hs.length ≤ 1000000) (hl : ∀ j, j < hs.length → (hs.getD j []).length ≤ 100000) (hrl : rs.length ≤ 1000000) (hel : es.length ≤ 1000000) :
    Calls Tryz.prog 67 #[hv, rv, ev] w fun e w' => ∃ us, e = .returned (.slice (some ⟨w.heap.size, 0, none⟩) hs.length hs.length) ∧ Rows2 w' w.heap.size w.heap.size (gotK hs rs es) us ∧ Below w.heap.size w w' := by
  have HH : Hid (IsSets w hv hs) := hH
  obtain ⟨va, vc, rfl, hrow⟩ := hH
  obtain ⟨ra, rc, rfl, hrr⟩ := hRs
  obtain ⟨ea, ec, rfl, hpp⟩ := hEs
  obtain ⟨n, hnn⟩ : ∃ n, n = hs.length := ⟨_, rfl⟩
  obtain ⟨nr, hnr⟩ : ∃ n, n = rs.length := ⟨_, rfl⟩
  obtain ⟨ne, hne⟩ : ∃ n, n = es.length := ⟨_, rfl⟩
  have HN : Hid (n = hs.length ∧ nr = rs.length ∧ ne = es.length) := ⟨hnn, hnr, hne⟩
  have HL : Hid ((∀ j, j < n → (hs.getD j []).length ≤ 100000) ∧ (∀ j, j < n → ((gotK hs rs es).getD j []).length ≤ 900000000000)) := by
    refine ⟨fun j hj => hl j (by omega), fun j hj => ?_⟩
    rw [gotK_at _ _ _ _ (by omega)]
    have h1 := gotAt_len rs es hl j (by omega)
    have h2 := (List.filter_sublist (p := fun p : Pair => p.2 == (j : Int)) (l := es)).length_le
    have h3 : (es.filter fun p => p.2 == (j : Int)).length * 100000 ≤ 1000000 * 100000 := Nat.mul_le_mul (by omega) (Nat.le_refl _)
    omega
  have HGL : Hid (∀ k m j, j < n → ((gotK hs (rs.take k) (es.take m)).getD j []).length ≤ 900000000000) := fun k m j hj => by
    rw [gotK_at _ _ _ _ (by omega)]
    have h1 := gotAt_len (rs.take k) (es.take m) hl j (by omega)
    have h2 := (List.filter_sublist (p := fun p : Pair => p.2 == (j : Int)) (l := es.take m)).length_le
    have h4 : (es.take m).length ≤ es.length := (List.take_sublist _ _).length_le
    have h5 : (rs.take k).length ≤ rs.length := (List.take_sublist _ _).length_le
    have h3 : ((es.take m).filter fun p => p.2 == (j : Int)).length * 100000 ≤ 1000000 * 100000 := Nat.mul_le_mul (by omega) (Nat.le_refl _)
    omega
  rw [← hnn] at hrow hn ⊢
  rw [← hnr] at hrr hrl ⊢
  rw [← hne] at hpp hel ⊢
  have HS : Hid (∀ wx, Below w.heap.size w wx → ∀ j, j < n → ∃ b o x, va = some ⟨b, o, none⟩ ∧ wx.cell? ⟨b, o + j, none⟩ = some x ∧ IsInts wx x (hs.getD j [])) := fun wx hb j hj => by
    obtain ⟨b, o, x, h1, h2, h3⟩ := hrow j hj
    exact ⟨b, o, x, h1, cell_keep hb h2, h3.below hb⟩
  have HR : Hid (∀ wx, Below w.heap.size w wx → ∀ j, j < nr → ∃ b, ra = some ⟨b, 0, none⟩ ∧ RuleAt wx b j (rs.getD j default)) := fun wx hb j hj => by
    obtain ⟨b, h1, h2⟩ := hrr j hj
    exact ⟨b, h1, h2.below hb⟩
  have HE : Hid (∀ wx, Below w.heap.size w wx → ∀ j, j < ne → ∃ g, ea = some ⟨g, 0, none⟩ ∧ wx.cell? ⟨g, j * 2, none⟩ = some (.int .i64 (es.getD j default).1) ∧ wx.cell? ⟨g, j * 2 + 1, none⟩ = some (.int .i64 (es.getD j default).2)) := fun wx hb j hj => by
    obtain ⟨g, h1, h2, h3⟩ := hpp j hj
    exact ⟨g, h1, cell_keep hb h2, cell_keep hb h3⟩
  have HRE : Hid ((∀ j, j < nr → (rs.getD j default).kind = kBase → 0 ≤ (rs.getD j default).a ∧ (rs.getD j default).a.toNat < n) ∧ ∀ j, j < ne → (0 ≤ (es.getD j default).1 ∧ (es.getD j default).1.toNat < n) ∧ (0 ≤ (es.getD j default).2 ∧ (es.getD j default).2.toNat < n)) := by
    refine ⟨fun j hj hk => ?_, fun j hj => ?_⟩
    · have := hr _ (getDmC (by omega : j < rs.length)) hk
      omega
    · have := he _ (getDmC (by omega : j < es.length))
      omega
  obtain ⟨g, hg⟩ : ∃ g, g = w.heap.size := ⟨_, rfl⟩
  have HG : Hid (g = w.heap.size) := hg
  have HM := make_rows n (by omega) w
  have H0 : Hid (∀ wx, wx = w.alloc (.cells (Array.replicate n (Value.slice none 0 0)) TSI) → Rows2 wx w.heap.size g (fillL hs 0 n) (List.replicate n (.slice none 0 0)) ∧ Below w.heap.size w wx) := fun wx hwx => by
    rw [hwx, hg, fillL_zero]
    exact ⟨Rows2.make w n, below1 w _⟩
  rw [← hg] at HM ⊢
  clear hrow hrr hpp hr he hl hnn hnr hne HH hg
  go_enter Tryz.func67, Tryz.ntmps67
  go_upto_region 3 with fail
  obtain ⟨W1, hW1⟩ : ∃ W1, W1 = w.alloc (.cells (Array.replicate n (Value.slice none 0 0)) TSI) := ⟨_, rfl⟩
  rw [← hW1]
  have HR0 := H0.out W1 hW1
  have HR0' : Hid _ := HR0
  clear HR0 H0 HM hW1
  go_loopw [19] (fun t wr => ∃ (k : Nat) (us : List Value), k ≤ n ∧ t = .int .i64 k ∧ Rows2 wr w.heap.size g (fillL hs k n) us ∧ Below w.heap.size w wr) (fun t _ => (n - intOf t).toNat)
  case atStart => exact ⟨0, _, Nat.zero_le _, rfl, HR0'.out.1, HR0'.out.2⟩
  case round =>
    clear HR0'
    obtain ⟨k, us, hk, rfl, hRw, hwr⟩ := hrel
    by_cases hlt : k < n
    · obtain ⟨b, o, x, rfl, e0, hx⟩ := HS.out wr hwr k hlt
      have hki : (k : Int) < n := by omega
      have KC : Hid _ := clone_any (hs.getD k []) x wr (by have := HL.out.1 k hlt; omega) hx
      obtain ⟨xa, xc, rfl⟩ := isInts_form hx
      obtain ⟨m, hm⟩ : ∃ m, m = (hs.getD k []).length := ⟨_, rfl⟩
      rw [← hm] at e0 KC
      have HM : Hid (m = (hs.getD k []).length) := hm
      have HRw : Hid (Rows2 wr w.heap.size g (fillL hs k n) us ∧ Below w.heap.size w wr) := ⟨hRw, hwr⟩
      clear hm hRw hx hwr
      go_wp2_with fail
      refine Calls.mono KC.out ?_
      rintro e w2 ⟨qa, qc, rfl, ho2, hb2⟩
      have hR2 := HRw.out.1.below hb2
      have hkl : k < (fillL hs k n).length := by rw [fillL_len]; exact hlt
      have c2 := hR2.cell k hkl
      obtain ⟨ya, yc, hy⟩ := hR2.form k hkl
      rw [hy] at c2
      have f2 := hR2.frz k
      have HNX : Hid (Rows2 (w2.setCell ⟨g, k, none⟩ (.slice qa m qc)) w.heap.size g (fillL hs (k + 1) n) (us.set k (.slice qa m qc)) ∧ Below w.heap.size w (w2.setCell ⟨g, k, none⟩ (.slice qa m qc))) := by
        refine ⟨?_, (HRw.out.2.trans (hb2.mono HRw.out.2.size)).setCell hR2.low _⟩
        rw [← fillL_set hs k n hlt]
        refine HRw.out.1.put k hkl _ _ (KeepBut.of_below hb2 _) ?_ (Or.inr fun g' hg' => ownBlock_ge ho2 g' hg')
        rw [← HM.out]
        exact owns_mono ho2 HRw.out.2.size
      clear KC ho2 hR2 hy hb2 hkl
      go_wp2_with fail
      go_roundw
      case rel => exact ⟨k + 1, _, hlt, by go_num, HNX.out⟩
      case measure => simp [intOf]; omega
    · have hkn : k = n := by omega
      subst hkn
      rw [fillL_full hs k HN.out.1] at hRw
      obtain ⟨w1, hw1⟩ : ∃ w1, w1 = wr := ⟨_, rfl⟩
      rw [← hw1] at hRw hwr ⊢
      have HR1 : Hid (Rows2 w1 w.heap.size g (gotK hs (rs.take 0) []) us ∧ Below w.heap.size w w1) := ⟨by rw [List.take_zero, gotK_start]; exact hRw, hwr⟩
      clear hw1 hRw hwr hlt hk
      go_upto_region 8 with fail
      go_loopw [32] (fun t wr => ∃ (j : Nat) (us : List Value), j ≤ nr ∧ t = .int .i64 j ∧ Rows2 wr w.heap.size g (gotK hs (rs.take j) []) us ∧ Below w.heap.size w wr) (fun t _ => (nr - intOf t).toNat)
      case atStart => exact ⟨0, _, Nat.zero_le _, rfl, HR1.out.1, HR1.out.2⟩
      case round =>
        clear HR1 us
        obtain ⟨j, us, hj, rfl, hRw, hwr⟩ := hrel
        by_cases hlt : j < nr
        · obtain ⟨b, rfl, av, e0, e1, e2, e3, e4, e5, -⟩ := HR.out wr hwr j hlt
          have hji : (j : Int) < nr := by omega
          have hjl : j < rs.length := by rw [← HN.out.2.1]; exact hlt
          obtain ⟨xa, xc, rfl⟩ := isInts_form e5
          obtain ⟨D, hD⟩ : ∃ D, D = ((rs.getD j default).kind == kBase) := ⟨_, rfl⟩
          obtain ⟨kd, hkd⟩ : ∃ kd, kd = S (rs.getD j default).kind := ⟨_, rfl⟩
          have hd : (kd.toList == [98, 97, 115, 101]) = D := by rw [hkd, S_toList, hD]; rfl
          obtain ⟨xn, hxn⟩ : ∃ z, z = (rs.getD j default).args.length := ⟨_, rfl⟩
          rw [← hkd] at e0
          rw [← hxn] at e4
          have hts : rs.take (j + 1) = rs.take j ++ [rs.getD j default] := take_snoc rs default j hjl
          clear hkd hxn e5
          cases D with
          | false =>
            have HNX : Hid (gotK hs (rs.take (j + 1)) [] = gotK hs (rs.take j) []) := by
              show _ = _
              rw [hts]
              exact gotK_skip _ _ _ (fun q => by rw [q] at hD; cases hD)
            have HRw : Hid (Rows2 wr w.heap.size g (gotK hs (rs.take j) []) us ∧ Below w.heap.size w wr) := ⟨hRw, hwr⟩
            clear hD hts hRw hwr hjl
            go_wp2_with fail
            go_roundw
            case rel =>
              refine ⟨j + 1, us, hlt, by go_num, ?_, ?_⟩
              · rw [HNX.out]; exact HRw.out.1.below (below1 _ _)
              · exact HRw.out.2.alloc HRw.out.2.size _
            case measure => simp [intOf]; omega
          | true =>
            have hkb : (rs.getD j default).kind = kBase := by simpa using hD.symm
            obtain ⟨ha0, ha1⟩ := HRE.out.1 j hlt hkb
            obtain ⟨ka, hka⟩ : ∃ ka : Nat, (rs.getD j default).a = (ka : Int) := ⟨(rs.getD j default).a.toNat, by omega⟩
            rw [hka] at ha0 ha1 e1
            rw [Int.toNat_natCast] at ha1
            have hkai : (ka : Int) < k := by omega
            obtain ⟨x2, hx2⟩ : ∃ z, z = (rs.getD j default).b := ⟨_, rfl⟩
            obtain ⟨x3, hx3⟩ : ∃ z, z = (rs.getD j default).stmt := ⟨_, rfl⟩
            rw [← hx2] at e2
            rw [← hx3] at e3
            have hgl : ka < (gotK hs (rs.take j) []).length := by rw [gotK_len, ← HN.out.1]; exact ha1
            have HNX : Hid ((gotK hs (rs.take j) []).set ka ((gotK hs (rs.take j) []).getD ka [] ++ [x2]) = gotK hs (rs.take (j + 1)) []) := by
              show _ = _
              rw [hts, hx2]
              exact gotK_base hs _ _ hkb ka hka (by rw [← HN.out.1]; exact ha1)
            obtain ⟨W4, hW4⟩ : ∃ W4, W4 = wr.alloc (ruleBox kd ka x2 x3 (.slice xa xn xc)) := ⟨_, rfl⟩
            have hB4 : Below wr.heap.size wr W4 := by rw [hW4]; exact below1 wr _
            have hbx : W4.heap[wr.heap.size]? = some (ruleBox kd ka x2 x3 (.slice xa xn xc)) := by rw [hW4]; exact heap_new wr _
            have hR4 := hRw.below hB4
            have c4 := hR4.cell ka hgl
            obtain ⟨ua, uc, hu⟩ := hR4.form ka hgl
            rw [hu] at c4
            obtain ⟨un, hun⟩ : ∃ z, z = ((gotK hs (rs.take j) []).getD ka []).length := ⟨_, rfl⟩
            rw [← hun] at hu c4
            obtain ⟨bx, hbxe⟩ : ∃ b, b = wr.heap.size := ⟨_, rfl⟩
            have HNE : Hid (g ≠ bx ∧ (Value.slice ua un uc).ownBlock ≠ some bx) := by
              have h1 := hRw.lt
              refine ⟨by omega, fun q => ?_⟩
              have := (ownBlock_lt (hRw.own ka hgl) (by rw [hu]; exact q)).1
              omega
            have HW4 : Hid (∀ wx, Below W4.heap.size W4 wx → Rows2 wx w.heap.size g (gotK hs (rs.take j) []) us ∧ Below w.heap.size w wx) := fun wx hb => ⟨hR4.below hb, (hwr.trans (hB4.mono hwr.size)).trans (hb.mono (by have := hwr.size; have := hB4.size; omega))⟩
            have HK : Hid (ka < (gotK hs (rs.take j) []).length ∧ us.getD ka .nilIface = .slice ua un uc ∧ ((gotK hs (rs.take j) []).getD ka []).length + [x2].length ≤ 1000000000000) := ⟨hgl, hu, by have := HGL.out j 0 ka ha1; rw [List.take_zero] at this; show _ + 1 ≤ _; omega⟩
            rw [← hbxe] at hbx
            have hnew := World.new_ne W4 ⟨g, ka, none⟩ c4
            obtain ⟨-, q1, q2⟩ := keepRule hbx
            clear hD hts hRw hwr hjl hkb hka hx2 hx3 hR4 hu hun hB4 hgl
            go_upto_region 11 with fail
            rw [← hbxe]
            rw [← hW4]
            clear hW4 hbxe e0 e1 e2 e3 e4
            have c4a : (W4.alloc (.cells #[.int .i64 x2] 3)).cell? ⟨g, ka, none⟩ = some (.slice ua un uc) := cell_keep (below1 _ _) c4
            refine wp_region_noPanic ?_
            refine wp_region_held_drew (S := fun wx => wx.heap[bx]? = some (ruleBox kd ka x2 x3 (.slice xa xn xc)) ∧ wx.cell? ⟨bx, 1, none⟩ = some (.int .i64 (ka : Int)) ∧ wx.cell? ⟨bx, 2, none⟩ = some (.int .i64 x2)) (by kernel_rfl) (keepRule hbx) (fun hHeld => ?_)
            refine wpAnyH_take (i := 0) (oi := _) (v := .slice (some ⟨g, 0, none⟩) k k) rfl (by kernel_rfl) (by kernel_rfl) (by kernel_rfl) (fun _ _ _ h => h) (Or.inl ⟨by rfl, ?_⟩) hHeld ?_
            · (intro w hSw; obtain ⟨hSw0, hSw1, hSw2⟩ := hSw; go_simp)
            try simp only [Act.put, List.setIfInBounds_toArray]
            refine wpAnyH_take (i := 1) (oi := _) (v := .pointer (some ⟨bx, 1, none⟩)) rfl (by kernel_rfl) (by kernel_rfl) (by kernel_rfl) (fun _ _ _ h => h) (Or.inl ⟨by rfl, ?_⟩) hHeld ?_
            · (intro w hSw; obtain ⟨hSw0, hSw1, hSw2⟩ := hSw; go_simp)
            try simp only [Act.put]
            refine wpAnyH_take (i := 2) (oi := _) (v := .int .i64 (ka : Int)) rfl (by kernel_rfl) (by kernel_rfl) (by kernel_rfl) (fun _ _ _ h => h) (Or.inl ⟨by rfl, ?_⟩) hHeld ?_
            · (intro w hSw; obtain ⟨hSw0, hSw1, hSw2⟩ := hSw; go_simp)
            try simp only [Act.put]
            refine wpAnyH_take (i := 3) (oi := _) (v := .slice (some ⟨g, 0, none⟩) k k) rfl (by kernel_rfl) (by kernel_rfl) (by kernel_rfl) (fun _ _ _ h => h) (Or.inl ⟨by rfl, ?_⟩) hHeld ?_
            · (intro w hSw; obtain ⟨hSw0, hSw1, hSw2⟩ := hSw; go_simp)
            try simp only [Act.put]
            refine wpAnyH_take (i := 4) (oi := _) (v := .pointer (some ⟨bx, 1, none⟩)) rfl (by kernel_rfl) (by kernel_rfl) (by kernel_rfl) (fun _ _ _ h => h) (Or.inl ⟨by rfl, ?_⟩) hHeld ?_
            · (intro w hSw; obtain ⟨hSw0, hSw1, hSw2⟩ := hSw; go_simp)
            try simp only [Act.put]
            refine wpAnyH_take (i := 5) (oi := _) (v := .int .i64 (ka : Int)) rfl (by kernel_rfl) (by kernel_rfl) (by kernel_rfl) (fun _ _ _ h => h) (Or.inl ⟨by rfl, ?_⟩) hHeld ?_
            · (intro w hSw; obtain ⟨hSw0, hSw1, hSw2⟩ := hSw; go_simp)
            try simp only [Act.put]
            refine wpAnyH_take (i := 6) (oi := _) (v := .pointer (some ⟨g, ka, none⟩)) rfl (by kernel_rfl) (by kernel_rfl) (by kernel_rfl) (fun _ _ _ h => h) (Or.inl ⟨by rfl, ?_⟩) hHeld ?_
            · (intro w hSw; obtain ⟨hSw0, hSw1, hSw2⟩ := hSw; go_simp)
            try simp only [Act.put]
            refine wpAnyH_take (i := 8) (oi := _) (v := .pointer (some ⟨bx, 2, none⟩)) rfl (by kernel_rfl) (by kernel_rfl) (by kernel_rfl) (fun _ _ _ h => h) (Or.inl ⟨by rfl, ?_⟩) hHeld ?_
            · (intro w hSw; obtain ⟨hSw0, hSw1, hSw2⟩ := hSw; go_simp)
            try simp only [Act.put]
            refine wpAnyH_take (i := 9) (oi := _) (v := .int .i64 x2) rfl (by kernel_rfl) (by kernel_rfl) (by kernel_rfl) (fun _ _ _ h => h) (Or.inl ⟨by rfl, ?_⟩) hHeld ?_
            · (intro w hSw; obtain ⟨hSw0, hSw1, hSw2⟩ := hSw; go_simp)
            try simp only [Act.put]
            refine wpAnyH_ready (rs := [7, 10]) (by kernel_rfl) (by simp) ?_
            refine AllReadyH.cons (o := _) rfl (fun K hK => ?_) (AllReadyH.cons (o := _) rfl (fun K hK => ?_) AllReadyH.nil)
            · go_simp
              refine hK.out _ _ (keepRule (by repeat (with_reducible first | exact hbx | refine block_drew ?_ | refine block_al ?_ _ | refine block_st ?_ HNE.out.1 | refine block_but ?_ hkp HNE.out.2))) (fun hHeld => ?_)
              clear hK K
              try simp only [Act.put, List.setIfInBounds_toArray, List.set_cons_zero, List.set_cons_succ]
              refine wpAnyH_ready (rs := [10]) (by kernel_rfl) (by simp) ?_
              refine AllReadyH.cons (o := _) rfl (fun K hK => ?_) AllReadyH.nil
              go_simp
              refine hK.out _ _ (keepRule (by repeat (with_reducible first | exact hbx | refine block_drew ?_ | refine block_al ?_ _ | refine block_st ?_ HNE.out.1 | refine block_but ?_ hkp HNE.out.2))) (fun hHeld => ?_)
              clear hK K
              try simp only [Act.put, List.setIfInBounds_toArray, List.set_cons_zero, List.set_cons_succ]
              refine wpAnyH_ready (rs := [11]) (by kernel_rfl) (by simp) ?_
              refine AllReadyH.cons (o := _) rfl (fun K hK => ?_) AllReadyH.nil
              refine step_more (by rfl) _ _ (by rfl) ka ua un uc _ [x2] (by rfl) (by rfl) (HW4.out _ (by repeat (with_reducible first | exact Below.refl _ _ | refine Below.drew ?_ | refine below_alC ?_ _))).1 (HW4.out _ (by repeat (with_reducible first | exact Below.refl _ _ | refine Below.drew ?_ | refine below_alC ?_ _))).2 HK.out.1 HK.out.2.1 (by exact isInts_of_cells rfl (fun j hj => by obtain rfl : j = 0 := (by simpa using hj); simp)) HK.out.2.2 ?_
              intro va vn vc w5 hNX hkp hbw hc5 hf5
              refine hK.out _ _ (keepRule (by repeat (with_reducible first | exact hbx | refine block_drew ?_ | refine block_al ?_ _ | refine block_st ?_ HNE.out.1 | refine block_but ?_ hkp HNE.out.2))) (fun hHeld => ?_)
              clear hK K
              try simp only [Act.put, List.setIfInBounds_toArray]
              refine wpAnyH_take (i := 12) (oi := _) (v := .pointer (some ⟨g, ka, none⟩)) rfl (by kernel_rfl) (by kernel_rfl) (by kernel_rfl) (fun _ _ _ h => h) (Or.inl ⟨by rfl, ?_⟩) hHeld ?_
              · (intro w hSw; obtain ⟨hSw0, hSw1, hSw2⟩ := hSw; go_simp)
              try simp only [Act.put]
              refine wpAnyH_ready (rs := [13]) (by kernel_rfl) (by simp) ?_
              refine AllReadyH.cons (o := _) rfl (fun K hK => ?_) AllReadyH.nil
              go_simp
              refine hK.out _ _ (keepRule (by repeat (with_reducible first | exact hbx | refine block_drew ?_ | refine block_al ?_ _ | refine block_st ?_ HNE.out.1 | refine block_but ?_ hkp HNE.out.2))) (fun hHeld => ?_)
              clear hK K
              try simp only [Act.put, List.setIfInBounds_toArray, List.set_cons_zero, List.set_cons_succ]
              refine wpAnyH_done (by kernel_rfl) ?_ _
              refine NoPanic.normal ?_
              go_wp2_with fail
              go_roundw
              case rel => exact ⟨j + 1, _, hlt, by go_num, by rw [← HNX.out]; exact hNX.out.1, hNX.out.2⟩
              case measure => simp [intOf]; omega
            · go_simp
              refine hK.out _ _ (keepRule (by repeat (with_reducible first | exact hbx | refine block_drew ?_ | refine block_al ?_ _ | refine block_st ?_ HNE.out.1 | refine block_but ?_ hkp HNE.out.2))) (fun hHeld => ?_)
              clear hK K
              try simp only [Act.put, List.setIfInBounds_toArray, List.set_cons_zero, List.set_cons_succ]
              refine wpAnyH_ready (rs := [7]) (by kernel_rfl) (by simp) ?_
              refine AllReadyH.cons (o := _) rfl (fun K hK => ?_) AllReadyH.nil
              go_simp
              refine hK.out _ _ (keepRule (by repeat (with_reducible first | exact hbx | refine block_drew ?_ | refine block_al ?_ _ | refine block_st ?_ HNE.out.1 | refine block_but ?_ hkp HNE.out.2))) (fun hHeld => ?_)
              clear hK K
              try simp only [Act.put, List.setIfInBounds_toArray, List.set_cons_zero, List.set_cons_succ]
              refine wpAnyH_ready (rs := [11]) (by kernel_rfl) (by simp) ?_
              refine AllReadyH.cons (o := _) rfl (fun K hK => ?_) AllReadyH.nil
              refine step_more (by rfl) _ _ (by rfl) ka ua un uc _ [x2] (by rfl) (by rfl) (HW4.out _ (by repeat (with_reducible first | exact Below.refl _ _ | refine Below.drew ?_ | refine below_alC ?_ _))).1 (HW4.out _ (by repeat (with_reducible first | exact Below.refl _ _ | refine Below.drew ?_ | refine below_alC ?_ _))).2 HK.out.1 HK.out.2.1 (by exact isInts_of_cells rfl (fun j hj => by obtain rfl : j = 0 := (by simpa using hj); simp)) HK.out.2.2 ?_
              intro va vn vc w5 hNX hkp hbw hc5 hf5
              refine hK.out _ _ (keepRule (by repeat (with_reducible first | exact hbx | refine block_drew ?_ | refine block_al ?_ _ | refine block_st ?_ HNE.out.1 | refine block_but ?_ hkp HNE.out.2))) (fun hHeld => ?_)
              clear hK K
              try simp only [Act.put, List.setIfInBounds_toArray]
              refine wpAnyH_take (i := 12) (oi := _) (v := .pointer (some ⟨g, ka, none⟩)) rfl (by kernel_rfl) (by kernel_rfl) (by kernel_rfl) (fun _ _ _ h => h) (Or.inl ⟨by rfl, ?_⟩) hHeld ?_
              · (intro w hSw; obtain ⟨hSw0, hSw1, hSw2⟩ := hSw; go_simp)
              try simp only [Act.put]
              refine wpAnyH_ready (rs := [13]) (by kernel_rfl) (by simp) ?_
              refine AllReadyH.cons (o := _) rfl (fun K hK => ?_) AllReadyH.nil
              go_simp
              refine hK.out _ _ (keepRule (by repeat (with_reducible first | exact hbx | refine block_drew ?_ | refine block_al ?_ _ | refine block_st ?_ HNE.out.1 | refine block_but ?_ hkp HNE.out.2))) (fun hHeld => ?_)
              clear hK K
              try simp only [Act.put, List.setIfInBounds_toArray, List.set_cons_zero, List.set_cons_succ]
              refine wpAnyH_done (by kernel_rfl) ?_ _
              refine NoPanic.normal ?_
              go_wp2_with fail
              go_roundw
              case rel => exact ⟨j + 1, _, hlt, by go_num, by rw [← HNX.out]; exact hNX.out.1, hNX.out.2⟩
              case measure => simp [intOf]; omega
        · have hjn : j = nr := by omega
          subst hjn
          rw [List.take_of_length_le (by rw [← HN.out.2.1]; exact Nat.le_refl _)] at hRw
          obtain ⟨w2, hw2⟩ : ∃ w2, w2 = wr := ⟨_, rfl⟩
          rw [← hw2] at hRw hwr ⊢
          have HR2 : Hid (Rows2 w2 w.heap.size g (gotK hs rs (es.take 0)) us ∧ Below w.heap.size w w2) := ⟨by rw [List.take_zero]; exact hRw, hwr⟩
          clear hw2 hRw hwr hlt hj
          go_upto_region 14 with fail
          go_loopw [55] (fun t wr => ∃ (i : Nat) (us : List Value), i ≤ ne ∧ t = .int .i64 i ∧ Rows2 wr w.heap.size g (gotK hs rs (es.take i)) us ∧ Below w.heap.size w wr) (fun t _ => (ne - intOf t).toNat)
          case atStart => exact ⟨0, _, Nat.zero_le _, rfl, HR2.out.1, HR2.out.2⟩
          case round =>
            clear HR2 us
            obtain ⟨i, us, hi, rfl, hRw, hwr⟩ := hrel
            by_cases hlt : i < ne
            · obtain ⟨b, rfl, e0, e1⟩ := HE.out wr hwr i hlt
              have hii : (i : Int) < ne := by omega
              have hil : i < es.length := by rw [← HN.out.2.2]; exact hlt
              obtain ⟨⟨hf0, hf1⟩, ht0, ht1⟩ := HRE.out.2 i hlt
              obtain ⟨kf, hkf⟩ : ∃ kf : Nat, (es.getD i default).1 = (kf : Int) := ⟨(es.getD i default).1.toNat, by omega⟩
              obtain ⟨kt, hkt⟩ : ∃ kt : Nat, (es.getD i default).2 = (kt : Int) := ⟨(es.getD i default).2.toNat, by omega⟩
              rw [hkf] at hf0 hf1 e0
              rw [hkt] at ht0 ht1 e1
              rw [Int.toNat_natCast] at hf1 ht1
              have hfi : (kf : Int) < k := by omega
              have hti : (kt : Int) < k := by omega
              have hts : es.take (i + 1) = es.take i ++ [es.getD i default] := take_snoc es default i hil
              obtain ⟨hb0, ho0, x0, hva, hc0, hi0⟩ := HS.out w (Below.refl _ _) kf hf1
              subst hva
              have hgl : kt < (gotK hs rs (es.take i)).length := by rw [gotK_len, ← HN.out.1]; exact ht1
              have HNX : Hid ((gotK hs rs (es.take i)).set kt ((gotK hs rs (es.take i)).getD kt [] ++ hs.getD kf []) = gotK hs rs (es.take (i + 1))) := by
                show _ = _
                rw [hts]
                have := gotK_edge hs rs (es.take i) (es.getD i default) kt hkt (by rw [← HN.out.1]; exact ht1)
                unfold setAt at this
                rw [hkf, Int.toNat_natCast] at this
                exact this
              obtain ⟨W4, hW4⟩ : ∃ W4, W4 = wr.alloc (.cells #[.int .i64 (kf : Int), .int .i64 (kt : Int)] TE) := ⟨_, rfl⟩
              have hB4 : Below wr.heap.size wr W4 := by rw [hW4]; exact below1 wr _
              have hbx : W4.heap[wr.heap.size]? = some (.cells #[.int .i64 (kf : Int), .int .i64 (kt : Int)] TE (0, 0)) := by rw [hW4]; exact heap_new wr _
              have hR4 := hRw.below hB4
              have c4 := hR4.cell kt hgl
              obtain ⟨ua, uc, hu⟩ := hR4.form kt hgl
              rw [hu] at c4
              obtain ⟨un, hun⟩ : ∃ z, z = ((gotK hs rs (es.take i)).getD kt []).length := ⟨_, rfl⟩
              rw [← hun] at hu c4
              obtain ⟨xa, xc, rfl⟩ := isInts_form hi0
              obtain ⟨xn, hxn⟩ : ∃ z, z = (hs.getD kf []).length := ⟨_, rfl⟩
              rw [← hxn] at hc0
              have HI0 : Hid (IsInts w (.slice xa xn xc) (hs.getD kf [])) := by show IsInts _ _ _; rw [hxn]; exact hi0
              obtain ⟨bx, hbxe⟩ : ∃ b, b = wr.heap.size := ⟨_, rfl⟩
              have HNE : Hid (g ≠ bx ∧ (Value.slice ua un uc).ownBlock ≠ some bx ∧ w.heap.size ≤ g) := by
                have h1 := hRw.lt
                refine ⟨by omega, fun q => ?_, hRw.low⟩
                have := (ownBlock_lt (hRw.own kt hgl) (by rw [hu]; exact q)).1
                omega
              have hB4w : Below w.heap.size w W4 := hwr.trans (hB4.mono hwr.size)
              have HW4 : Hid (∀ wx, Below W4.heap.size W4 wx → Rows2 wx w.heap.size g (gotK hs rs (es.take i)) us ∧ Below w.heap.size w wx ∧ IsInts wx (.slice xa xn xc) (hs.getD kf [])) := fun wx hb => by
                have := hB4w.trans (hb.mono hB4w.size)
                exact ⟨hR4.below hb, this, HI0.out.below this⟩
              have HK : Hid (kt < (gotK hs rs (es.take i)).length ∧ us.getD kt .nilIface = .slice ua un uc ∧ ((gotK hs rs (es.take i)).getD kt []).length + (hs.getD kf []).length ≤ 1000000000000) := ⟨hgl, hu, by
                have h1 := HGL.out j i kt ht1
                rw [List.take_of_length_le (by rw [← HN.out.2.1]; exact Nat.le_refl _)] at h1
                have h2 := HL.out.1 kf hf1
                omega⟩
              have HC0 : Hid (w.cell? ⟨hb0, ho0 + kf, none⟩ = some (.slice xa xn xc)) := hc0
              rw [← hbxe] at hbx
              have hnew := World.new_ne W4 ⟨g, kt, none⟩ c4
              obtain ⟨-, -, q1, q2, q3⟩ := keepEdge hB4w hbx hc0
              clear hts hRw hwr hil hkf hkt hR4 hu hun hB4 hgl hi0 hxn hc0
              go_upto_region 16 with fail
              rw [← hbxe]
              rw [← hW4]
              clear hW4 hbxe e0 e1
              refine wp_region_noPanic ?_
              refine wp_region_held_drew (S := fun wx => Below w.heap.size w wx ∧ wx.heap[bx]? = some (.cells #[.int .i64 (kf : Int), .int .i64 (kt : Int)] TE (0, 0)) ∧ wx.cell? ⟨bx, 0, none⟩ = some (.int .i64 (kf : Int)) ∧ wx.cell? ⟨bx, 1, none⟩ = some (.int .i64 (kt : Int)) ∧ wx.cell? ⟨hb0, ho0 + kf, none⟩ = some (.slice xa xn xc)) (by kernel_rfl) (keepEdge hB4w.drew hbx HC0.out) (fun hHeld => ?_)
              refine wpAnyH_take (i := 0) (oi := _) (v := .slice (some ⟨g, 0, none⟩) k k) rfl (by kernel_rfl) (by kernel_rfl) (by kernel_rfl) (fun _ _ _ h => h) (Or.inl ⟨by rfl, ?_⟩) hHeld ?_
              · (intro w hSw; obtain ⟨hSw0, hSw1, hSw2, hSw3, hSw4⟩ := hSw; go_simp)
              try simp only [Act.put, List.setIfInBounds_toArray]
              refine wpAnyH_take (i := 1) (oi := _) (v := .pointer (some ⟨bx, 1, none⟩)) rfl (by kernel_rfl) (by kernel_rfl) (by kernel_rfl) (fun _ _ _ h => h) (Or.inl ⟨by rfl, ?_⟩) hHeld ?_
              · (intro w hSw; obtain ⟨hSw0, hSw1, hSw2, hSw3, hSw4⟩ := hSw; go_simp)
              try simp only [Act.put]
              refine wpAnyH_take (i := 2) (oi := _) (v := .int .i64 (kt : Int)) rfl (by kernel_rfl) (by kernel_rfl) (by kernel_rfl) (fun _ _ _ h => h) (Or.inl ⟨by rfl, ?_⟩) hHeld ?_
              · (intro w hSw; obtain ⟨hSw0, hSw1, hSw2, hSw3, hSw4⟩ := hSw; go_simp)
              try simp only [Act.put]
              refine wpAnyH_take (i := 3) (oi := _) (v := .slice (some ⟨g, 0, none⟩) k k) rfl (by kernel_rfl) (by kernel_rfl) (by kernel_rfl) (fun _ _ _ h => h) (Or.inl ⟨by rfl, ?_⟩) hHeld ?_
              · (intro w hSw; obtain ⟨hSw0, hSw1, hSw2, hSw3, hSw4⟩ := hSw; go_simp)
              try simp only [Act.put]
              refine wpAnyH_take (i := 4) (oi := _) (v := .pointer (some ⟨bx, 1, none⟩)) rfl (by kernel_rfl) (by kernel_rfl) (by kernel_rfl) (fun _ _ _ h => h) (Or.inl ⟨by rfl, ?_⟩) hHeld ?_
              · (intro w hSw; obtain ⟨hSw0, hSw1, hSw2, hSw3, hSw4⟩ := hSw; go_simp)
              try simp only [Act.put]
              refine wpAnyH_take (i := 5) (oi := _) (v := .int .i64 (kt : Int)) rfl (by kernel_rfl) (by kernel_rfl) (by kernel_rfl) (fun _ _ _ h => h) (Or.inl ⟨by rfl, ?_⟩) hHeld ?_
              · (intro w hSw; obtain ⟨hSw0, hSw1, hSw2, hSw3, hSw4⟩ := hSw; go_simp)
              try simp only [Act.put]
              refine wpAnyH_take (i := 6) (oi := _) (v := .pointer (some ⟨g, kt, none⟩)) rfl (by kernel_rfl) (by kernel_rfl) (by kernel_rfl) (fun _ _ _ h => h) (Or.inl ⟨by rfl, ?_⟩) hHeld ?_
              · (intro w hSw; obtain ⟨hSw0, hSw1, hSw2, hSw3, hSw4⟩ := hSw; go_simp)
              try simp only [Act.put]
              refine wpAnyH_take (i := 8) (oi := _) (v := .slice (some ⟨hb0, ho0, none⟩) k vc) rfl (by kernel_rfl) (by kernel_rfl) (by kernel_rfl) (fun _ _ _ h => h) (Or.inl ⟨by rfl, ?_⟩) hHeld ?_
              · (intro w hSw; obtain ⟨hSw0, hSw1, hSw2, hSw3, hSw4⟩ := hSw; go_simp)
              try simp only [Act.put]
              refine wpAnyH_take (i := 9) (oi := _) (v := .pointer (some ⟨bx, 0, none⟩)) rfl (by kernel_rfl) (by kernel_rfl) (by kernel_rfl) (fun _ _ _ h => h) (Or.inl ⟨by rfl, ?_⟩) hHeld ?_
              · (intro w hSw; obtain ⟨hSw0, hSw1, hSw2, hSw3, hSw4⟩ := hSw; go_simp)
              try simp only [Act.put]
              refine wpAnyH_take (i := 10) (oi := _) (v := .int .i64 (kf : Int)) rfl (by kernel_rfl) (by kernel_rfl) (by kernel_rfl) (fun _ _ _ h => h) (Or.inl ⟨by rfl, ?_⟩) hHeld ?_
              · (intro w hSw; obtain ⟨hSw0, hSw1, hSw2, hSw3, hSw4⟩ := hSw; go_simp)
              try simp only [Act.put]
              refine wpAnyH_take (i := 11) (oi := _) (v := .pointer (some ⟨hb0, ho0 + kf, none⟩)) rfl (by kernel_rfl) (by kernel_rfl) (by kernel_rfl) (fun _ _ _ h => h) (Or.inl ⟨by rfl, ?_⟩) hHeld ?_
              · (intro w hSw; obtain ⟨hSw0, hSw1, hSw2, hSw3, hSw4⟩ := hSw; go_simp)
              try simp only [Act.put]
              refine wpAnyH_take (i := 12) (oi := _) (v := .slice xa xn xc) rfl (by kernel_rfl) (by kernel_rfl) (by kernel_rfl) (fun _ _ _ h => h) (Or.inl ⟨by rfl, ?_⟩) hHeld ?_
              · (intro w hSw; obtain ⟨hSw0, hSw1, hSw2, hSw3, hSw4⟩ := hSw; go_simp)
              try simp only [Act.put]
              refine wpAnyH_ready (rs := [7]) (by kernel_rfl) (by simp) ?_
              refine AllReadyH.cons (o := _) rfl (fun K hK => ?_) AllReadyH.nil
              go_simp
              refine hK.out _ _ (keepEdge (by repeat (with_reducible first | assumption | exact hB4w | refine Below.drew ?_ | refine Below.setCell ?_ HNE.out.2.2 _)) (by repeat (with_reducible first | exact hbx | refine block_drew ?_ | refine block_st ?_ HNE.out.1 | refine block_but ?_ hkp HNE.out.2.1)) HC0.out) (fun hHeld => ?_)
              clear hK K
              try simp only [Act.put, List.setIfInBounds_toArray, List.set_cons_zero, List.set_cons_succ]
              refine wpAnyH_ready (rs := [13]) (by kernel_rfl) (by simp) ?_
              refine AllReadyH.cons (o := _) rfl (fun K hK => ?_) AllReadyH.nil
              refine step_more (by rfl) _ _ (by rfl) kt ua un uc _ (hs.getD kf []) (by rfl) (by rfl) (HW4.out _ (by repeat (with_reducible first | exact Below.refl _ _ | refine Below.drew ?_ | refine below_alC ?_ _))).1 (HW4.out _ (by repeat (with_reducible first | exact Below.refl _ _ | refine Below.drew ?_ | refine below_alC ?_ _))).2.1 HK.out.1 HK.out.2.1 (HW4.out _ (by repeat (with_reducible first | exact Below.refl _ _ | refine Below.drew ?_ | refine below_alC ?_ _))).2.2 HK.out.2.2 ?_
              intro va vn vc w5 hNX hkp hbw hc5 hf5
              refine hK.out _ _ (keepEdge (by repeat (with_reducible first | assumption | exact hB4w | refine Below.drew ?_ | refine Below.setCell ?_ HNE.out.2.2 _)) (by repeat (with_reducible first | exact hbx | refine block_drew ?_ | refine block_st ?_ HNE.out.1 | refine block_but ?_ hkp HNE.out.2.1)) HC0.out) (fun hHeld => ?_)
              clear hK K
              try simp only [Act.put, List.setIfInBounds_toArray]
              refine wpAnyH_take (i := 14) (oi := _) (v := .pointer (some ⟨g, kt, none⟩)) rfl (by kernel_rfl) (by kernel_rfl) (by kernel_rfl) (fun _ _ _ h => h) (Or.inl ⟨by rfl, ?_⟩) hHeld ?_
              · (intro w hSw; obtain ⟨hSw0, hSw1, hSw2, hSw3, hSw4⟩ := hSw; go_simp)
              try simp only [Act.put]
              refine wpAnyH_ready (rs := [15]) (by kernel_rfl) (by simp) ?_
              refine AllReadyH.cons (o := _) rfl (fun K hK => ?_) AllReadyH.nil
              go_simp
              refine hK.out _ _ (keepEdge (by repeat (with_reducible first | assumption | exact hB4w | refine Below.drew ?_ | refine Below.setCell ?_ HNE.out.2.2 _)) (by repeat (with_reducible first | exact hbx | refine block_drew ?_ | refine block_st ?_ HNE.out.1 | refine block_but ?_ hkp HNE.out.2.1)) HC0.out) (fun hHeld => ?_)
              clear hK K
              try simp only [Act.put, List.setIfInBounds_toArray, List.set_cons_zero, List.set_cons_succ]
              refine wpAnyH_done (by kernel_rfl) ?_ _
              refine NoPanic.normal ?_
              go_wp2_with fail
              go_roundw
              case rel => exact ⟨i + 1, _, hlt, by go_num, by rw [← HNX.out]; exact hNX.out.1, hNX.out.2⟩
              case measure => simp [intOf]; omega
            · have hin : i = ne := by omega
              subst hin
              rw [List.take_of_length_le (by rw [← HN.out.2.2]; exact Nat.le_refl _)] at hRw
              have HF : Hid (Rows2 wr g g (gotK hs rs es) us ∧ Below g w wr) := by rw [← HG.out] at hRw hwr; exact ⟨hRw, hwr⟩
              clear hRw hwr
              go_wp2_with fail
              go_ret
              exact ⟨us, rfl, HF.out.1, HF.out.2⟩
end Go.Proofs.YtglonlpfnllocaaGreatDoor

/-
  Package fix, sets: by a contract.
-/
namespace Go.Proofs.YtglonlpfnllocaaGreatDoor
open Go.RowKit Go.Extern.Stop Go.Stop Go.Extern

theorem isInts_setN {w : World} {v : Value} {zs : List Int} (h : IsInts w v zs) {g i : Nat} {x : Value} (hne : zs = [] ∨ v.ownBlock ≠ some g) : IsInts (w.setCell ⟨g, i, none⟩ x) v zs := by
  rcases hne with e | e
  · rcases h with q | ⟨q, _⟩
    · exact Or.inl q
    · exact absurd e q
  · exact isInts_set h e
/-- Sets that lie in memory from B on. -/
def SetsFrom (B : Nat) (w : World) (v : Value) (hs : List (List Int)) : Prop :=
  ∃ a c, v = .slice a hs.length c ∧ ∀ j, j < hs.length → ∃ b o x, a = some ⟨b, o, none⟩ ∧ B ≤ b ∧ w.cell? ⟨b, o + j, none⟩ = some x ∧ IsInts w x (hs.getD j []) ∧ (hs.getD j [] = [] ∨ ∀ g', x.ownBlock = some g' → B ≤ g')
theorem SetsFrom.isSets {B : Nat} {w : World} {v : Value} {hs : List (List Int)} (h : SetsFrom B w v hs) : IsSets w v hs := by
  obtain ⟨a, c, e, q⟩ := h
  refine ⟨a, c, e, fun j hj => ?_⟩
  obtain ⟨b, o, x, h1, -, h2, h3, -⟩ := q j hj
  exact ⟨b, o, x, h1, h2, h3⟩
theorem SetsFrom.below {B : Nat} {w w' : World} {v : Value} {hs : List (List Int)} (h : SetsFrom B w v hs) (hb : Below w.heap.size w w') : SetsFrom B w' v hs := by
  obtain ⟨a, c, e, q⟩ := h
  refine ⟨a, c, e, fun j hj => ?_⟩
  obtain ⟨b, o, x, h1, h0, h2, h3, h4⟩ := q j hj
  exact ⟨b, o, x, h1, h0, cell_keep hb h2, h3.below hb, h4⟩
theorem SetsFrom.mono {B B' : Nat} {w : World} {v : Value} {hs : List (List Int)} (h : SetsFrom B w v hs) (hb : B' ≤ B) : SetsFrom B' w v hs := by
  obtain ⟨a, c, e, q⟩ := h
  refine ⟨a, c, e, fun j hj => ?_⟩
  obtain ⟨b, o, x, h1, h0, h2, h3, h4⟩ := q j hj
  exact ⟨b, o, x, h1, Nat.le_trans hb h0, h2, h3, h4.imp id fun r g' q => Nat.le_trans hb (r g' q)⟩
/-- A cell of older memory is written. -/
theorem SetsFrom.set {B : Nat} {w : World} {v : Value} {hs : List (List Int)} (h : SetsFrom B w v hs) {b0 i : Nat} (hb : b0 < B) (x : Value) : SetsFrom B (w.setCell ⟨b0, i, none⟩ x) v hs := by
  obtain ⟨a, c, e, q⟩ := h
  refine ⟨a, c, e, fun j hj => ?_⟩
  obtain ⟨b, o, y, h1, h0, h2, h3, h4⟩ := q j hj
  refine ⟨b, o, y, h1, h0, ?_, isInts_setN h3 (h4.imp id fun r q => ?_), h4⟩
  · rw [World.cell?_setCell_other _ _ _ _ (fun e => by injection e; omega)]; exact h2
  · have := r b0 q
    omega
/-- The first k sets are laid. -/
structure SetI (w : World) (B g k : Nat) (zss : List (List Int)) (us : List Value) : Prop where
  low : B ≤ g
  lu : us.length = zss.length
  blk : w.heap[g]? = some (.cells us.toArray TSI (0, 0))
  at_ : ∀ j, j < k → IsInts w (us.getD j .nilIface) (zss.getD j []) ∧ (zss.getD j [] = [] ∨ ((us.getD j .nilIface).ownBlock ≠ some g ∧ ∀ g', (us.getD j .nilIface).ownBlock = some g' → B ≤ g'))
theorem SetI.below {w w' : World} {B g k : Nat} {zss : List (List Int)} {us : List Value} (h : SetI w B g k zss us) (hb : Below w.heap.size w w') : SetI w' B g k zss us :=
  ⟨h.low, h.lu, block_keep hb h.blk, fun j hj => ⟨(h.at_ j hj).1.below hb, (h.at_ j hj).2⟩⟩
theorem SetI.cell {w : World} {B g k : Nat} {zss : List (List Int)} {us : List Value} (h : SetI w B g k zss us) (j : Nat) (hj : j < zss.length) : w.cell? ⟨g, j, none⟩ = some (us.getD j .nilIface) := by
  rw [Lib.cell_of_heap h.blk]
  have : j < us.length := by rw [h.lu]; exact hj
  simp [List.getD, this]
theorem SetI.put {w : World} {B g k : Nat} {zss : List (List Int)} {us : List Value} (h : SetI w B g k zss us) (hk : k < zss.length) (v' : Value) (hv : IsInts w v' (zss.getD k [])) (hob : zss.getD k [] = [] ∨ (v'.ownBlock ≠ some g ∧ ∀ g', v'.ownBlock = some g' → B ≤ g')) : SetI (w.setCell ⟨g, k, none⟩ v') B g (k + 1) zss (us.set k v') := by
  have hku : k < us.length := by rw [h.lu]; exact hk
  refine ⟨h.low, by rw [List.length_set]; exact h.lu, ?_, fun j hj => ?_⟩
  · rw [set_block _ _ _ _ _ _ h.blk]
    simp
  · by_cases e : j = k
    · subst e
      rw [show (us.set j v').getD j .nilIface = v' by simp [List.getD, hku]]
      exact ⟨isInts_setN hv (hob.imp id And.left), hob⟩
    · rw [getD_set_otherE _ _ _ _ _ (fun q => e q.symm)]
      obtain ⟨h1, h2⟩ := h.at_ j (by omega)
      exact ⟨isInts_setN h1 (h2.imp id And.left), h2⟩
theorem SetI.isSets {w : World} {B g : Nat} {zss : List (List Int)} {us : List Value} (h : SetI w B g zss.length zss us) (c : Nat) : SetsFrom B w (.slice (some ⟨g, 0, none⟩) zss.length c) zss :=
  ⟨_, c, rfl, fun j hj => ⟨g, 0, us.getD j .nilIface, rfl, h.low, by rw [Nat.zero_add]; exact h.cell j hj, (h.at_ j hj).1, (h.at_ j hj).2.imp id And.right⟩⟩

set_option maxRecDepth 100000 in
set_option maxHeartbeats 8000000 in
theorem sets_any (zss : List (List Int)) (v : Value) (w : World) (h : IsSets w v zss) (hn : zss.length ≤ 1000000) (hl : ∀ j, j < zss.length → (zss.getD j []).length ≤ 1000000) (hin : ∀ j, j < zss.length → InB (zss.getD j [])) :
    Calls Tryz.prog 66 #[v] w fun e w' => ∃ a c, e = .returned (.tuple #[.slice a zss.length c, .nilIface]) ∧ SetsFrom w.heap.size w' (.slice a zss.length c) (zss.map norm) ∧ Below w.heap.size w w' := by
  obtain ⟨va, vc, rfl, hrow⟩ := h
  obtain ⟨n, hnn⟩ : ∃ n, n = zss.length := ⟨_, rfl⟩
  have HN : Hid (n = zss.length) := hnn
  have HL : Hid (∀ j, j < n → (zss.getD j []).length ≤ 1000000 ∧ InB (zss.getD j [])) := fun j hj => ⟨hl j (by omega), hin j (by omega)⟩
  rw [← hnn] at hrow hn ⊢
  have HS : Hid (∀ wx, Below w.heap.size w wx → ∀ j, j < n → ∃ b o x, va = some ⟨b, o, none⟩ ∧ wx.cell? ⟨b, o + j, none⟩ = some x ∧ IsInts wx x (zss.getD j [])) := fun wx hb j hj => by
    obtain ⟨b, o, x, h1, h2, h3⟩ := hrow j hj
    exact ⟨b, o, x, h1, cell_keep hb h2, h3.below hb⟩
  obtain ⟨g, hg⟩ : ∃ g, g = w.heap.size := ⟨_, rfl⟩
  have HM := make_rows n (by omega) w
  have H0 : Hid (∀ wx, wx = w.alloc (.cells (Array.replicate n (Value.slice none 0 0)) TSI) → SetI wx w.heap.size g 0 (zss.map norm) (List.replicate n (.slice none 0 0)) ∧ Below w.heap.size w wx) := fun wx hwx => by
    rw [hwx, hg]
    exact ⟨⟨Nat.le_refl _, by simp [hnn], by rw [List.toArray_replicate]; exact heap_new w _, fun j hj => absurd hj (Nat.not_lt_zero _)⟩, below1 w _⟩
  have HNM : Hid (∀ j, j < n → (zss.map norm).getD j [] = norm (zss.getD j [])) := fun j hj => by
    have : j < zss.length := by omega
    simp [List.getD, this]
  rw [← hg] at HM ⊢
  have HG : Hid (g = w.heap.size) := hg
  clear hrow hl hin hnn hg
  go_enter Tryz.func66, Tryz.ntmps66
  go_upto_region 3 with fail
  obtain ⟨W1, hW1⟩ : ∃ W1, W1 = w.alloc (.cells (Array.replicate n (Value.slice none 0 0)) TSI) := ⟨_, rfl⟩
  rw [← hW1]
  have HR0 : Hid _ := H0.out W1 hW1
  clear H0 HM hW1
  go_loopw [14] (fun t wr => ∃ (k : Nat) (us : List Value), k ≤ n ∧ t = .int .i64 k ∧ SetI wr w.heap.size g k (zss.map norm) us ∧ Below w.heap.size w wr) (fun t _ => (n - intOf t).toNat)
  case atStart => exact ⟨0, _, Nat.zero_le _, rfl, HR0.out.1, HR0.out.2⟩
  case round =>
    clear HR0
    obtain ⟨k, us, hk, rfl, hRw, hwr⟩ := hrel
    by_cases hlt : k < n
    · obtain ⟨b, o, x, rfl, e0, hx⟩ := HS.out wr hwr k hlt
      have hki : (k : Int) < n := by omega
      have KC : Hid _ := of_own (zss.getD k []) x wr (HL.out k hlt).1 hx (HL.out k hlt).2
      obtain ⟨xa, xc, rfl⟩ := isInts_form hx
      obtain ⟨m, hm⟩ : ∃ m, m = (zss.getD k []).length := ⟨_, rfl⟩
      rw [← hm] at e0 KC
      have HRw : Hid (SetI wr w.heap.size g k (zss.map norm) us ∧ Below w.heap.size w wr) := ⟨hRw, hwr⟩
      clear hm hRw hx hwr
      go_wp2_with fail
      refine Calls.mono KC.out ?_
      rintro e w2 ⟨v', rfl, hi2, hb2, hob⟩
      obtain ⟨qa, qc, rfl⟩ := isInts_form hi2
      obtain ⟨m2, hm2⟩ : ∃ m, m = (norm (zss.getD k [])).length := ⟨_, rfl⟩
      rw [← hm2] at hi2 hob ⊢
      have hR2 := HRw.out.1.below hb2
      have hkl : k < (zss.map norm).length := by rw [List.length_map, ← HN.out]; exact hlt
      have c2 := hR2.cell k hkl
      have f2 : w2.frozen? ⟨g, k, none⟩ = false := Lib.frozen_of_heap hR2.blk k
      have hgs : g < wr.heap.size := (Array.getElem?_eq_some_iff.1 HRw.out.1.blk).1
      have HNX : Hid (SetI (w2.setCell ⟨g, k, none⟩ (.slice qa m2 qc)) w.heap.size g (k + 1) (zss.map norm) (us.set k (.slice qa m2 qc)) ∧ Below w.heap.size w (w2.setCell ⟨g, k, none⟩ (.slice qa m2 qc))) := by
        refine ⟨hR2.put hkl _ (by rw [HNM.out k hlt]; exact hi2) ?_, (HRw.out.2.trans (hb2.mono HRw.out.2.size)).setCell hR2.low _⟩
        rw [HNM.out k hlt]
        by_cases hz : zss.getD k [] = []
        · left; rw [hz, norm_nil]
        · right
          refine ⟨fun q => ?_, fun g' q => ?_⟩
          · have := hob hz g q
            omega
          · have := hob hz g' q
            have := HRw.out.2.size
            omega
      obtain ⟨xo, hxo⟩ : ∃ z, z = us.getD k .nilIface := ⟨_, rfl⟩
      rw [← hxo] at c2
      clear KC hi2 hob hm2 hR2 hb2 hkl hgs hxo
      go_wp2_with fail
      go_roundw
      case rel => exact ⟨k + 1, _, hlt, by go_num, HNX.out⟩
      case measure => simp [intOf]; omega
    · have hkn : k = n := by omega
      subst hkn
      have HB : Hid (Below g w wr) := by show Below _ _ _; rw [HG.out]; exact hwr
      have HF : Hid (SetsFrom g wr (.slice (some ⟨g, 0, none⟩) k k) (zss.map norm)) := by
        have e : k = (zss.map norm).length := by rw [List.length_map]; exact HN.out
        have := hRw
        rw [e] at this
        have := this.isSets k
        rw [← e, ← HG.out] at this
        exact this
      clear hRw
      go_wp2_with fail
      go_ret2
      exact ⟨_, _, rfl, HF.out, HB.out⟩
end Go.Proofs.YtglonlpfnllocaaGreatDoor

/-
  Package fix, Round: by a contract.
-/
namespace Go.Proofs.YtglonlpfnllocaaGreatDoor
open Go.RowKit Go.Extern.Stop Go.Stop Go.Extern

/-- What Round tells. -/
def RoundPost (a : Nat → Addr) (P : ProgD) (hs : List (List Int)) (w w' : World) (e : Ending) : Prop :=
  ∃ va vn vc ev, e = .returned (.tuple #[.slice va vn vc, ev]) ∧ ((consE P hs = none ∧ ev = .nilIface ∧ SetsFrom w.heap.size w' (.slice va vn vc) (roundD P hs)) ∨ ((consE P hs).isNone = false ∧ Value.slice va vn vc = .slice none 0 0 ∧ ErrV w' a (consE P hs) ev)) ∧ Below w.heap.size w w'
/-- What a round gathers. -/
theorem got_ok {P : ProgD} {hs : List (List Int)} {es : List Pair} (hc : checkE P = none) (h : SetsOk P hs) (he : EdgeSet (foundD P hs) es) :
    (∀ r ∈ rulesD P, r.kind = kBase → 0 ≤ r.a ∧ r.a.toNat < hs.length) ∧ (∀ p ∈ es, (0 ≤ p.1 ∧ p.1.toNat < hs.length) ∧ (0 ≤ p.2 ∧ p.2.toNat < hs.length)) ∧ hs.length ≤ 1000 ∧ (∀ j, j < hs.length → (hs.getD j []).length ≤ 200) ∧ (rulesD P).length ≤ 1000 ∧ es.length ≤ 1000000 ∧
    (gotK hs (rulesD P) es).length = hs.length ∧ ∀ j, j < hs.length → ((gotK hs (rulesD P) es).getD j []).length ≤ 1000000 ∧ InB ((gotK hs (rulesD P) es).getD j []) := by
  obtain ⟨s1, s2, s3⟩ := right_small hc
  have hpl := places_le P P.stmts.length
  have hlen := h.len
  have hv : P.vars.length ≤ hs.length := by rw [h.len]; unfold places; omega
  have hnd : ∀ p ∈ es, (0 ≤ p.1 ∧ p.1 < (hs.length : Int)) ∧ (0 ≤ p.2 ∧ p.2 < (hs.length : Int)) := fun p hp => found_nodes hc h p ((he.mem p).1 hp).1
  have hsh := fun j hj => h.short hc j hj
  refine ⟨fun r hr _ => ?_, fun p hp => ?_, by omega, hsh, by rw [rulesD_len]; omega, ?_, gotK_len _ _ _, fun j hj => ?_⟩
  · have := (rule_names hc r hr).1
    omega
  · have := hnd p hp
    omega
  · exact Nat.le_trans (up_length he.up (fun p hp => ((he.mem p).1 hp).1)) (Nat.le_trans (foundD_len h hc) (by omega))
  · rw [gotK_at _ _ _ _ hj]
    constructor
    · have h1 := gotAt_len (rulesD P) es hsh j hj
      have h2 := into_len he.up (fun p hp => (hnd p hp).1) j
      rw [rulesD_len] at h1
      have h3 : (es.filter fun p => p.2 == (j : Int)).length * 200 ≤ 1000 * 200 := Nat.mul_le_mul (by omega) (Nat.le_refl _)
      omega
    · refine inB_iff.2 fun x hx => ?_
      have hr := (SetsOk.round hc h).set j (by rw [roundD_len]; exact hj)
      rw [← gather_round he, show ((gotK hs (rulesD P) es).map norm).getD j [] = norm ((gotK hs (rulesD P) es).getD j []) by simp [List.getD, gotK_len, hj], gotK_at _ _ _ _ hj] at hr
      exact inB_iff.1 hr.1 x ((norm_mem _ _).2 hx)

set_option maxRecDepth 100000 in
set_option maxHeartbeats 8000000 in
theorem round_any (a : Nat → Addr) (P : ProgD) (v1 v2 v3 hv : Value) (hs : List (List Int)) (w : World) (hS : SmallP P) (h : IsProg w v1 v2 v3 P) (hH : IsSets w hv hs) (hE : Errs5 w a) (h3 : Three w a) (hn : hs.length ≤ 1000000) (hl : ∀ j, j < hs.length → (hs.getD j []).length ≤ 1000000) :
    Calls Tryz.prog 30 #[.agg #[v1, v2, v3], hv] w fun e w' => RoundPost a P hs w w' e := by
  have H : Hid (IsProg w v1 v2 v3 P ∧ Errs5 w a ∧ SmallP P ∧ IsSets w hv hs) := ⟨h, hE, hS, hH⟩
  obtain ⟨⟨a1, c1, rfl, -, -⟩, ⟨a2, c2, rfl, -, -⟩, ⟨a3, c3, rfl, -, -⟩⟩ := h
  obtain ⟨ha, hc, rfl, -⟩ := hH
  obtain ⟨n1, hn1⟩ : ∃ m, m = P.vars.length := ⟨_, rfl⟩
  obtain ⟨n2, hn2⟩ : ∃ m, m = P.funs.length := ⟨_, rfl⟩
  obtain ⟨n3, hn3⟩ : ∃ m, m = P.stmts.length := ⟨_, rfl⟩
  obtain ⟨n, hnn⟩ : ∃ m, m = hs.length := ⟨_, rfl⟩
  rw [← hn1, ← hn2, ← hn3] at H ⊢
  rw [← hnn] at H ⊢
  have HN : Hid (n = hs.length) := hnn
  obtain ⟨W, hW⟩ : ∃ W, W = w.alloc (.cells #[.slice a1 n1 c1, .slice a2 n2 c2, .slice a3 n3 c3] 26) := ⟨_, rfl⟩
  have hBW : Below w.heap.size w W := by rw [hW]; exact below1 w _
  have HX : Hid (Box3 W w.heap.size (.slice a1 n1 c1) (.slice a2 n2 c2) (.slice a3 n3 c3)) := by show Box3 _ _ _ _ _; rw [hW]; exact box3_new w _ _ _ _
  have KC : Hid (Calls Tryz.prog 65 #[.agg #[.slice a1 n1 c1, .slice a2 n2 c2, .slice a3 n3 c3], .slice ha n hc] W fun e w' => EdgesPost a P hs W w' e) := edges_any a P _ _ _ _ hs W hS (H.out.1.below hBW) (H.out.2.2.2.below hBW) (hE.below hBW) (h3.below hBW) hn hl
  obtain ⟨p0, p1, p2⟩ := HX.out
  clear hn1 hn2 hn3 hE hS hnn hn hl h3
  go_enter Tryz.func30, Tryz.ntmps30
  go_upto_region 1 with fail
  rw [← hW]
  clear hW
  go_wp2_with fail
  refine KC.out.mono ?_
  rintro e w1 ⟨v, ev, rfl, hcase, hB1⟩
  clear KC
  have hB1w : Below w.heap.size w w1 := hBW.trans (hB1.mono hBW.size)
  replace p0 := cell_keep hB1 p0
  replace p1 := cell_keep hB1 p1
  replace p2 := cell_keep hB1 p2
  rcases hcase with ⟨hce, rfl, es, q1, q2⟩ | ⟨hce, rfl, hev⟩
  case inr =>
    have h8 : ∃ t x, ev = .iface t (.pointer (some x)) := by
      rcases hev.cases with ⟨q, _⟩ | ⟨_, q⟩
      · rw [q] at hce; cases hce
      · exact q
    obtain ⟨t8, x8, rfl⟩ := h8
    have HV : Hid ((consE P hs).isNone = false ∧ ErrV w1 a (consE P hs) (.iface t8 (.pointer (some x8)))) := ⟨hce, hev⟩
    clear hev hce
    go_wp2_with fail
    go_ret2
    exact ⟨_, _, _, _, rfl, Or.inr ⟨HV.out.1, rfl, HV.out.2⟩, hB1w⟩
  case inl =>
    obtain ⟨hck, hok⟩ := consE_ok hce
    have HCE : Hid (consE P hs = none ∧ checkE P = none ∧ SetsOk P hs ∧ EdgeSet (foundD P hs) es) := ⟨hce, hck, hok, q2⟩
    have HP : Hid (IsPairs w1 v es) := q1
    obtain ⟨ea, ec, rfl, -⟩ := q1
    obtain ⟨en, hen⟩ : ∃ z, z = es.length := ⟨_, rfl⟩
    rw [← hen] at HP ⊢
    have KR : Hid (Calls Tryz.prog 25 #[.agg #[.slice a1 n1 c1, .slice a2 n2 c2, .slice a3 n3 c3]] w1 fun e w' => ∃ ra rn rc, e = .returned (.tuple #[.slice ra rn rc, .nilIface]) ∧ IsRules w' (.slice ra rn rc) (rulesD P) ∧ Below w1.heap.size w1 w') := by
      refine (of_any a P _ _ _ w1 H.out.2.2.1 (H.out.1.below hB1w) (H.out.2.1.below hB1w)).mono ?_
      rintro e w' ⟨v, ev, rfl, hcs, hb⟩
      rcases hcs with ⟨-, rfl, hr⟩ | ⟨q, -, -⟩
      · have hr' := hr
        obtain ⟨ra, rc, rfl, -⟩ := hr
        exact ⟨ra, _, rc, rfl, hr', hb⟩
      · rw [HCE.out.2.1] at q; cases q
    clear hce hck hok q2 hen hB1
    go_wp2_with fail
    refine KR.out.mono ?_
    rintro e w2 ⟨ra, rn, rc, rfl, hr2, hB2⟩
    have HR2 : Hid (IsRules w2 (.slice ra rn rc) (rulesD P) ∧ IsPairs w2 (.slice ea en ec) es ∧ IsSets w2 (.slice ha n hc) hs) := ⟨hr2, HP.out.below hB2, H.out.2.2.2.below (hB1w.trans (hB2.mono hB1w.size))⟩
    have hB2w : Below w.heap.size w w2 := hB1w.trans (hB2.mono hB1w.size)
    have KG : Hid (∃ g, Calls Tryz.prog 67 #[.slice ha n hc, .slice ra rn rc, .slice ea en ec] w2 fun e w' => e = .returned (.slice (some ⟨g, 0, none⟩) n n) ∧ IsSets w' (.slice (some ⟨g, 0, none⟩) n n) (gotK hs (rulesD P) es) ∧ Below w2.heap.size w2 w') := by
      obtain ⟨g1, g2, g3, g4, g5, g6, g7, g8⟩ := got_ok HCE.out.2.1 HCE.out.2.2.1 HCE.out.2.2.2
      refine ⟨w2.heap.size, ?_⟩
      refine (gather_any hs (rulesD P) es _ _ _ w2 HR2.out.2.2 HR2.out.1 HR2.out.2.1 g1 g2 (by omega) (fun j hj => by have := g4 j hj; omega) (by omega) g6).mono ?_
      rintro e w' ⟨us, rfl, r1, r2⟩
      have := r1.isSets n
      rw [g7, ← HN.out] at this
      exact ⟨by rw [HN.out], this, r2⟩
    obtain ⟨g, hKG⟩ := KG.out
    have KG' : Hid _ := hKG
    have KS : Hid (∀ wx v, IsSets wx v (gotK hs (rulesD P) es) → Calls Tryz.prog 66 #[v] wx fun e w' => ∃ a c, e = .returned (.tuple #[.slice a n c, .nilIface]) ∧ SetsFrom wx.heap.size w' (.slice a n c) (roundD P hs) ∧ Below wx.heap.size wx w') := fun wx v hv => by
      obtain ⟨g1, g2, g3, g4, g5, g6, g7, g8⟩ := got_ok HCE.out.2.1 HCE.out.2.2.1 HCE.out.2.2.2
      have := sets_any (gotK hs (rulesD P) es) v wx hv (by omega) (fun j hj => (g8 j (by omega)).1) (fun j hj => (g8 j (by omega)).2)
      rw [g7, ← HN.out, gather_round HCE.out.2.2.2] at this
      exact this
    clear hr2 hB2 KR hKG KG p0 p1 p2
    go_wp2_with fail
    refine Calls.mono KG'.out ?_
    rintro e w3 ⟨rfl, hi3, hB3⟩
    have hB3w : Below w.heap.size w w3 := hB2w.trans (hB3.mono hB2w.size)
    clear KG'
    go_wp2_with fail
    refine (KS.out w3 _ hi3).mono ?_
    rintro e w4 ⟨xa, xc, rfl, hi4, hB4⟩
    have HX4 : Hid (SetsFrom w.heap.size w4 (.slice xa n xc) (roundD P hs)) := hi4.mono hB3w.size
    clear hi4 hi3
    go_wp2_with fail
    go_ret2
    exact ⟨_, _, _, _, rfl, Or.inl ⟨HCE.out.1, rfl, HX4.out⟩, hB3w.trans (hB4.mono hB3w.size)⟩
end Go.Proofs.YtglonlpfnllocaaGreatDoor

/-
  Package fix, Least: by a contract.
-/
namespace Go.Proofs.YtglonlpfnllocaaGreatDoor
open Go.RowKit Go.Extern.Stop Go.Stop Go.Extern

theorem equal_any (xs ys : List Int) (u v : Value) (w : World) (hx : xs.length ≤ 1000000) (hy : ys.length ≤ 1000000) (h1 : IsInts w u xs) (h2 : IsInts w v ys) :
    Calls Tryz.prog 32 #[u, v] w fun e w' => e = .returned (.bool (decide (xs = ys))) ∧ Below w.heap.size w w' := by
  rcases h1 with ⟨rfl, a, c, rfl⟩ | ⟨hz, b, o, c, rfl, hc⟩
  · obtain ⟨va, vc, rfl⟩ := isInts_form h2
    refine (Tryz.slices_Equal_int_empty a va c ys.length vc w (by omega)).mono ?_
    rintro e w' ⟨rfl, rfl⟩
    refine ⟨?_, Below.refl _ _⟩
    congr 2
    rw [decide_eq_decide]
    constructor
    · intro q; exact (List.eq_nil_of_length_eq_zero q).symm
    · intro q; rw [← q]; rfl
  · by_cases hlen : xs.length = ys.length
    · rcases h2 with ⟨rfl, a, c', rfl⟩ | ⟨hz', b', o', c', rfl, hc'⟩
      · exact absurd (List.eq_nil_of_length_eq_zero hlen) hz
      · refine (Tryz.slices_Equal_int b o xs.length c b' o' ys.length c' xs ys w (Nat.le_refl _) (Nat.le_refl _) (by omega) (by omega) hc hc').mono ?_
        rintro e w' ⟨rfl, q, rfl⟩
        refine ⟨?_, below_drewN (Below.refl _ _) q⟩
        rw [List.take_length, List.take_length]
        congr 2
        rw [Bool.eq_iff_iff, beq_iff_eq, decide_eq_true_iff]
    · obtain ⟨va, vc, rfl⟩ := isInts_form h2
      refine (Tryz.slices_Equal_int_lens _ va xs.length c ys.length vc w hlen).mono ?_
      rintro e w' ⟨rfl, rfl⟩
      refine ⟨?_, Below.refl _ _⟩
      congr 2
      exact (decide_eq_false (fun q => hlen (by rw [q]))).symm

theorem take_eq_succ {xs ys : List (List Int)} {k : Nat} (hx : k < xs.length) (hy : k < ys.length) (h : xs.take k = ys.take k) (h1 : xs.getD k [] = ys.getD k []) : xs.take (k + 1) = ys.take (k + 1) := by
  rw [take_snoc xs [] k hx, take_snoc ys [] k hy, h, h1]
set_option maxRecDepth 100000 in
set_option maxHeartbeats 8000000 in
theorem equalFunc_any (xs ys : List (List Int)) (u v : Value) (w : World) (h1 : IsSets w u xs) (h2 : IsSets w v ys) (hlen : xs.length = ys.length) (hn : xs.length ≤ 1000000) (hx : ∀ j, j < xs.length → (xs.getD j []).length ≤ 1000000) (hy : ∀ j, j < ys.length → (ys.getD j []).length ≤ 1000000) :
    Calls Tryz.prog 31 #[u, v, .func (Fn.func 32) #[] #[]] w fun e w' => e = .returned (.bool (decide (xs = ys))) ∧ Below w.heap.size w w' := by
  obtain ⟨ua, uc, rfl, hr1⟩ := h1
  obtain ⟨va, vc, rfl, hr2⟩ := h2
  rw [← hlen] at hr2 hy ⊢
  obtain ⟨n, hnn⟩ : ∃ n, n = xs.length := ⟨_, rfl⟩
  rw [← hnn] at hr1 hr2 hn hx hy ⊢
  have HN : Hid (n = xs.length ∧ n = ys.length) := ⟨hnn, by rw [hnn, hlen]⟩
  have HS : Hid (∀ wx, Below w.heap.size w wx → ∀ j, j < n → ∃ b o x b' o' x', ua = some ⟨b, o, none⟩ ∧ wx.cell? ⟨b, o + j, none⟩ = some x ∧ va = some ⟨b', o', none⟩ ∧ wx.cell? ⟨b', o' + j, none⟩ = some x' ∧ IsInts wx x (xs.getD j []) ∧ IsInts wx x' (ys.getD j [])) := fun wx hb j hj => by
    obtain ⟨b, o, x, q1, q2, q3⟩ := hr1 j hj
    obtain ⟨b', o', x', r1, r2, r3⟩ := hr2 j hj
    exact ⟨b, o, x, b', o', x', q1, cell_keep hb q2, r1, cell_keep hb r2, q3.below hb, r3.below hb⟩
  have HL : Hid (∀ j, j < n → (xs.getD j []).length ≤ 1000000 ∧ (ys.getD j []).length ≤ 1000000) := fun j hj => ⟨hx j hj, hy j hj⟩
  obtain ⟨R, hR⟩ : ∃ R, R = decide (xs = ys) := ⟨_, rfl⟩
  have HR : Hid (R = decide (xs = ys)) := hR
  rw [← hR]
  clear hr1 hr2 hx hy hnn hlen hR
  go_enter Tryz.func31, Tryz.ntmps31
  go_upto_region 4 with fail
  go_loopw [17] (fun t wr => ∃ k : Nat, k ≤ n ∧ t = .int .i64 k ∧ xs.take k = ys.take k ∧ Below w.heap.size w wr) (fun t _ => (n - intOf t).toNat)
  case atStart => exact ⟨0, Nat.zero_le _, rfl, rfl, Below.refl _ _⟩
  case round =>
    obtain ⟨k, hk, rfl, htk, hwr⟩ := hrel
    by_cases hlt : k < n
    · obtain ⟨b, o, x, b', o', x', rfl, e0, rfl, f0, hx, hx'⟩ := HS.out wr hwr k hlt
      have hki : (k : Int) < n := by omega
      have KC : Hid _ := equal_any (xs.getD k []) (ys.getD k []) x x' wr (HL.out k hlt).1 (HL.out k hlt).2 hx hx'
      obtain ⟨xa, xc, rfl⟩ := isInts_form hx
      obtain ⟨ya, yc, rfl⟩ := isInts_form hx'
      obtain ⟨m, hm⟩ : ∃ m, m = (xs.getD k []).length := ⟨_, rfl⟩
      obtain ⟨m', hm'⟩ : ∃ m, m = (ys.getD k []).length := ⟨_, rfl⟩
      rw [← hm] at e0 KC
      rw [← hm'] at f0 KC
      obtain ⟨D, hD⟩ : ∃ D, D = decide (xs.getD k [] = ys.getD k []) := ⟨_, rfl⟩
      rw [← hD] at KC
      have HT : Hid (D = decide (xs.getD k [] = ys.getD k []) ∧ xs.take k = ys.take k) := ⟨hD, htk⟩
      clear hm hm' hD htk hx hx'
      go_wp2_with fail
      refine Calls.mono KC.out ?_
      rintro e w2 ⟨rfl, hb2⟩
      have hB2 : Below w.heap.size w w2 := hwr.trans (hb2.mono hwr.size)
      clear KC hb2
      cases D with
      | true =>
        go_wp2_with fail
        go_roundw
        case rel =>
          have e1 : xs.getD k [] = ys.getD k [] := by simpa using HT.out.1.symm
          exact ⟨k + 1, hlt, by go_num, take_eq_succ (by rw [← HN.out.1]; exact hlt) (by rw [← HN.out.2]; exact hlt) HT.out.2 e1, hB2⟩
        case measure => simp [intOf]; omega
      | false =>
        have HF : Hid (R = false) := by
          show R = false
          rw [HR.out]
          refine decide_eq_false fun q => ?_
          have := HT.out.1
          rw [q] at this
          simp at this
        go_wp2_with fail
        go_ret
        exact ⟨by rw [HF.out]; rfl, hB2⟩
    · have hkn : k = n := by omega
      subst hkn
      have HF : Hid (R = true) := by
        show R = true
        rw [HR.out]
        have h1 := htk
        rw [List.take_of_length_le (by rw [← HN.out.1]; exact Nat.le_refl _), List.take_of_length_le (by rw [← HN.out.2]; exact Nat.le_refl _)] at h1
        exact decide_eq_true h1
      clear htk
      go_wp2_with fail
      go_ret
      exact ⟨by rw [HF.out]; rfl, hwr⟩

/-- What Least tells. -/
def LeastPost (a : Nat → Addr) (P : ProgD) (w w' : World) (e : Ending) : Prop :=
  ∃ va vn vc ev k, e = .returned (.tuple #[.slice va vn vc, .int .i64 k, ev]) ∧ ((checkE P = none ∧ ev = .nilIface ∧ ∃ m : Nat, k = (m : Int) ∧ FixK P m ∧ IsSets w' (.slice va vn vc) (iterD P m)) ∨ ((checkE P).isNone = false ∧ Value.slice va vn vc = .slice none 0 0 ∧ k = 0 ∧ ErrV w' a (checkE P) ev)) ∧ Below w.heap.size w w'
theorem consE_bad {P : ProgD} {hs : List (List Int)} (h : (checkE P).isNone = false) : consE P hs = checkE P := by
  unfold consE
  cases e : checkE P with
  | none => rw [e] at h; cases h
  | some x => rfl
theorem rows2_isSets_make (w : World) (n : Nat) : IsSets (w.alloc (.cells (Array.replicate n (Value.slice none 0 0)) TSI)) (.slice (some ⟨w.heap.size, 0, none⟩) n n) (List.replicate n []) := by
  have := (Rows2.make w n).isSets n
  simpa using this
set_option maxRecDepth 100000 in
set_option maxHeartbeats 8000000 in
theorem least_any (a : Nat → Addr) (P : ProgD) (v1 v2 v3 : Value) (w : World) (hS : SmallP P) (h : IsProg w v1 v2 v3 P) (hE : Errs5 w a) (h3 : Three w a) :
    Calls Tryz.prog 11 #[.agg #[v1, v2, v3]] w fun e w' => LeastPost a P w w' e := by
  have H : Hid (IsProg w v1 v2 v3 P ∧ Errs5 w a ∧ SmallP P ∧ Three w a) := ⟨h, hE, hS, h3⟩
  obtain ⟨⟨a1, c1, rfl, -, -⟩, ⟨a2, c2, rfl, -, -⟩, ⟨a3, c3, rfl, -, -⟩⟩ := h
  obtain ⟨n1, hn1⟩ : ∃ m, m = P.vars.length := ⟨_, rfl⟩
  obtain ⟨n2, hn2⟩ : ∃ m, m = P.funs.length := ⟨_, rfl⟩
  obtain ⟨n3, hn3⟩ : ∃ m, m = P.stmts.length := ⟨_, rfl⟩
  rw [← hn1, ← hn2, ← hn3] at H ⊢
  obtain ⟨W, hW⟩ : ∃ W, W = w.alloc (.cells #[.slice a1 n1 c1, .slice a2 n2 c2, .slice a3 n3 c3] 26) := ⟨_, rfl⟩
  have hBW : Below w.heap.size w W := by rw [hW]; exact below1 w _
  have HX : Hid (Box3 W w.heap.size (.slice a1 n1 c1) (.slice a2 n2 c2) (.slice a3 n3 c3)) := by show Box3 _ _ _ _ _; rw [hW]; exact box3_new w _ _ _ _
  have KN : Hid (Calls Tryz.prog 27 #[.agg #[.slice a1 n1 c1, .slice a2 n2 c2, .slice a3 n3 c3]] W fun e w' => e = .returned (.int .i64 (nodesD P)) ∧ Below W.heap.size W w') := nodes_any a P _ _ _ W hS (H.out.1.below hBW) (H.out.2.1.below hBW)
  obtain ⟨M, hM⟩ : ∃ M : Nat, nodesD P = (M : Int) := by
    unfold nodesD
    split
    · exact ⟨_, rfl⟩
    · exact ⟨0, rfl⟩
  have HMM : Hid (nodesD P = (M : Int) ∧ M ≤ 1000000) := by
    refine ⟨hM, ?_⟩
    unfold nodesD at hM
    have hpl := places_le P P.stmts.length
    have := hS.1
    have := hS.2.2.1
    split at hM <;> omega
  rw [hM] at KN
  obtain ⟨p0, p1, p2⟩ := HX.out
  clear hn1 hn2 hn3 hE hS h3 hM
  go_enter Tryz.func11, Tryz.ntmps11
  go_upto_region 1 with fail
  rw [← hW]
  clear hW
  have hMl := HMM.out.2
  go_wp2_with fail
  refine KN.out.mono ?_
  rintro e w1 ⟨rfl, hB1⟩
  have HM1 := make_rows M hMl w1
  have hB1w : Below w.heap.size w w1 := hBW.trans (hB1.mono hBW.size)
  have HX1 : Hid (Box3 w1 w.heap.size (.slice a1 n1 c1) (.slice a2 n2 c2) (.slice a3 n3 c3)) := HX.out.below hB1
  clear KN p0 p1 p2 hB1 hBW HX
  go_upto_region 2 with fail
  obtain ⟨W2, hW2⟩ : ∃ W2, W2 = w1.alloc (.cells (Array.replicate M (Value.slice none 0 0)) TSI) := ⟨_, rfl⟩
  have hB2 : Below w1.heap.size w1 W2 := by rw [hW2]; exact below1 w1 _
  have HI2 : Hid (IsSets W2 (.slice (some ⟨w1.heap.size, 0, none⟩) M M) (List.replicate M [])) := by
    show IsSets _ _ _
    rw [hW2]
    have := rows2_isSets_make w1 M
    exact this
  have HX2 : Hid (Box3 W2 w.heap.size (.slice a1 n1 c1) (.slice a2 n2 c2) (.slice a3 n3 c3)) := HX1.out.below hB2
  have HB2 : Hid (Below w.heap.size w W2) := hB1w.trans (hB2.mono hB1w.size)
  rw [← hW2]
  clear hW2 HM1 hB2 HX1 hB1w
  obtain ⟨g, hg⟩ : ∃ g, g = w1.heap.size := ⟨_, rfl⟩
  rw [← hg] at HI2 ⊢
  clear hg
  by_cases hck : checkE P = none
  · have hMp : M = places P P.stmts.length := by
      have := HMM.out.1
      unfold nodesD at this
      rw [hck] at this
      simp at this
      omega
    have HG : Hid (checkE P = none ∧ IsSets W2 (.slice (some ⟨g, 0, none⟩) M M) (iterD P 0) ∧ ∀ k, (iterD P k).length = M) := ⟨hck, by
      show IsSets _ _ (emptyD P)
      unfold emptyD
      rw [← hMp]
      exact HI2.out, fun k => by rw [iterD_len, hMp]⟩
    clear hMp hck
    have KRd : Hid (∀ wx k ha hc, Below w.heap.size w wx → IsSets wx (.slice ha M hc) (iterD P k) → Calls Tryz.prog 30 #[.agg #[.slice a1 n1 c1, .slice a2 n2 c2, .slice a3 n3 c3], .slice ha M hc] wx fun e w' => ∃ va vc, e = .returned (.tuple #[.slice va M vc, .nilIface]) ∧ IsSets w' (.slice va M vc) (iterD P (k + 1)) ∧ Below wx.heap.size wx w') := fun wx k ha hc hb hi => by
      have hok := setsOk_iter HG.out.1 k
      refine (round_any a P _ _ _ _ (iterD P k) wx H.out.2.2.1 (H.out.1.below hb) hi (H.out.2.1.below hb) (H.out.2.2.2.below hb) (by rw [HG.out.2.2]; exact hMl) (fun j hj => by have := hok.short HG.out.1 j hj; omega)).mono ?_
      rintro e w' ⟨va, vn, vc, ev, rfl, hcs, hb'⟩
      rcases hcs with ⟨-, rfl, hr⟩ | ⟨q, -, -⟩
      · replace hr := hr.isSets
        have hvn : vn = M := by
          obtain ⟨a', c', e', _⟩ := hr
          injection e' with _ e2 _
          rw [e2, roundD_len, HG.out.2.2]
        subst hvn
        exact ⟨va, vc, rfl, hr, hb'⟩
      · rw [consE_of HG.out.1 hok] at q
        cases q
    have KEq : Hid (∀ wx k va vc ha hc, IsSets wx (.slice va M vc) (iterD P (k + 1)) → IsSets wx (.slice ha M hc) (iterD P k) → Calls Tryz.prog 31 #[.slice va M vc, .slice ha M hc, .func (Fn.func 32) #[] #[]] wx fun e w' => e = .returned (.bool (decide (iterD P (k + 1) = iterD P k))) ∧ Below wx.heap.size wx w') := fun wx k va vc ha hc h1 h2 => by
      have hok := setsOk_iter HG.out.1 k
      have hok1 := setsOk_iter HG.out.1 (k + 1)
      exact equalFunc_any _ _ _ _ wx h1 h2 (by rw [HG.out.2.2, HG.out.2.2]) (by rw [HG.out.2.2]; exact hMl) (fun j hj => by have := hok1.short HG.out.1 j hj; omega) (fun j hj => by have := hok.short HG.out.1 j hj; omega)
    clear HI2
    go_wp2_with fail
    go_loopw [5, 6] (fun t5 t6 wr => ∃ (ha : Option Addr) (hc k : Nat), t5 = .slice ha M hc ∧ t6 = .int .i64 k ∧ IsSets wr (.slice ha M hc) (iterD P k) ∧ (∀ j, j < k → roundD P (iterD P j) ≠ iterD P j) ∧ Below W2.heap.size W2 wr) (fun _ t6 _ => (40000 - intOf t6).toNat)
    case atStart => exact ⟨_, _, 0, rfl, rfl, HG.out.2.1, fun j hj => absurd hj (Nat.not_lt_zero _), Below.refl _ _⟩
    case round =>
      obtain ⟨ha, hc, k, rfl, rfl, hi, hno, hwr⟩ := hrel
      have hk := rounds_few HG.out.1 k hno
      obtain ⟨p0, p1, p2⟩ := HX2.out.below hwr
      have hBr : Below w.heap.size w wr := HB2.out.trans (hwr.mono HB2.out.size)
      have HI : Hid (IsSets wr (.slice ha M hc) (iterD P k) ∧ (∀ j, j < k → roundD P (iterD P j) ≠ iterD P j) ∧ Below w.heap.size w wr ∧ Below W2.heap.size W2 wr) := ⟨hi, hno, hBr, hwr⟩
      clear hi hno hBr hwr
      go_wp2_with fail
      refine (KRd.out wr k ha hc HI.out.2.2.1 HI.out.1).mono ?_
      rintro e w3 ⟨va, vc, rfl, hi3, hb3⟩
      have H3 : Hid (IsSets w3 (.slice va M vc) (iterD P (k + 1)) ∧ IsSets w3 (.slice ha M hc) (iterD P k) ∧ Below wr.heap.size wr w3) := ⟨hi3, HI.out.1.below hb3, hb3⟩
      clear hi3 hb3 p0 p1 p2
      go_wp2_with fail
      refine (KEq.out w3 k va vc ha hc H3.out.1 H3.out.2.1).mono ?_
      rintro e w4 ⟨rfl, hb4⟩
      obtain ⟨D, hD⟩ : ∃ D, D = decide (iterD P (k + 1) = iterD P k) := ⟨_, rfl⟩
      rw [← hD]
      have H4 : Hid (IsSets w4 (.slice va M vc) (iterD P (k + 1)) ∧ Below w.heap.size w w4 ∧ Below W2.heap.size W2 w4 ∧ D = decide (iterD P (k + 1) = iterD P k)) := by
        have hb3 := H3.out.2.2
        have h34 : Below wr.heap.size wr w4 := hb3.trans (hb4.mono hb3.size)
        exact ⟨H3.out.1.below hb4, HI.out.2.2.1.trans (h34.mono HI.out.2.2.1.size), HI.out.2.2.2.trans (h34.mono HI.out.2.2.2.size), hD⟩
      clear hb4 hD H3
      cases D with
      | true =>
        have HF : Hid (FixK P k ∧ IsSets w4 (.slice va M vc) (iterD P k)) := by
          have e : iterD P (k + 1) = iterD P k := by simpa using H4.out.2.2.2.symm
          refine ⟨⟨e, HI.out.2.1⟩, ?_⟩
          rw [← e]
          exact H4.out.1
        go_wp2_with fail
        go_ret3
        exact ⟨_, _, _, _, _, rfl, Or.inl ⟨HG.out.1, rfl, k, rfl, HF.out.1, HF.out.2⟩, H4.out.2.1⟩
      | false =>
        have hne : roundD P (iterD P k) ≠ iterD P k := fun e => by
          have := H4.out.2.2.2
          rw [show iterD P (k + 1) = iterD P k from e] at this
          simp at this
        have HNX : Hid (∀ j, j < k + 1 → roundD P (iterD P j) ≠ iterD P j) := fun j hj => by
          by_cases ej : j = k
          · rw [ej]; exact hne
          · exact HI.out.2.1 j (by omega)
        clear hne
        go_wp2_with fail
        go_roundw
        case rel => exact ⟨va, vc, k + 1, rfl, by go_num, H4.out.1, HNX.out, H4.out.2.2.1⟩
        case measure => simp [intOf]; omega
  · have hcb : (checkE P).isNone = false := by
      cases e : checkE P with
      | none => exact absurd e hck
      | some x => rfl
    have hM0 : M = 0 := by
      have := HMM.out.1
      unfold nodesD at this
      rw [hcb] at this
      simp at this
      omega
    subst hM0
    have KRd : Hid (Calls Tryz.prog 30 #[.agg #[.slice a1 n1 c1, .slice a2 n2 c2, .slice a3 n3 c3], .slice (some ⟨g, 0, none⟩) 0 0] W2 fun e w' => ∃ t x, e = .returned (.tuple #[.slice none 0 0, .iface t (.pointer (some x))]) ∧ ErrV w' a (checkE P) (.iface t (.pointer (some x))) ∧ Below W2.heap.size W2 w') := by
      refine (round_any a P _ _ _ _ [] W2 H.out.2.2.1 (H.out.1.below HB2.out) HI2.out (H.out.2.1.below HB2.out) (H.out.2.2.2.below HB2.out) (by simp) (fun j hj => by simp at hj)).mono ?_
      rintro e w' ⟨va, vn, vc, ev, rfl, hcs, hb'⟩
      rcases hcs with ⟨q, -, -⟩ | ⟨q, q2, q3⟩
      · rw [consE_bad hcb] at q
        rw [q] at hcb
        cases hcb
      · rw [consE_bad hcb] at q3
        rw [q2]
        rcases q3.cases with ⟨z, _⟩ | ⟨_, t, x, rfl⟩
        · rw [hcb] at z; cases z
        · exact ⟨t, x, rfl, q3, hb'⟩
    have HCB : Hid ((checkE P).isNone = false) := hcb
    obtain ⟨p0, p1, p2⟩ := HX2.out
    clear hcb hck HI2 HMM
    go_wp2_with fail
    go_loopw [5, 6] (fun t5 t6 wr => t5 = .slice (some ⟨g, 0, none⟩) 0 0 ∧ t6 = .int .i64 0 ∧ wr = W2) (fun _ _ _ => 0)
    case atStart => exact ⟨rfl, rfl, rfl⟩
    case round =>
      obtain ⟨rfl, rfl, rfl⟩ := hrel
      go_wp2_with fail
      refine KRd.out.mono ?_
      rintro e w3 ⟨t, x, rfl, hev, hb3⟩
      have H3 : Hid (ErrV w3 a (checkE P) (.iface t (.pointer (some x))) ∧ Below w.heap.size w w3) := ⟨hev, HB2.out.trans (hb3.mono HB2.out.size)⟩
      clear hev hb3
      go_wp2_with fail
      go_ret3
      exact ⟨_, _, _, _, _, rfl, Or.inr ⟨HCB.out, rfl, rfl, H3.out.1⟩, H3.out.2⟩
end Go.Proofs.YtglonlpfnllocaaGreatDoor
