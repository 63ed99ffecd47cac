/-
  A row of rows of numbers, all of one's own and apart: a number, or many, behind one of them.
-/
import Derived.Test.YtimmkenmahagjaaGreatDoorCM
import Derived.Test.YtimmkenmahagjaaGreatDoorCB
import Derived.Deep.AppendLies
import Derived.Test.YtimmkenmahagjaaGreatDoorZMM
import Derived.Deep.RegionHeld3
import Derived.Deep.DrawnRows
import Derived.Test.YtimmkenmahagjaaGreatDoorSetC
import Derived.Test.YtimmkenmahagjaaGreatDoorCH
import Derived.Lib.QuietBelow
import Derived.Test.YtimmkenmahagjaaGreatDoorPI
import Derived.Test.YtimmkenmahagjaaGreatDoorPZ8
import Derived.Test.YtimmkenmahagjaaGreatDoorPMem
import Derived.Test.YtimmkenmahagjaaGreatDoorZCM
import Derived.Test.YtimmkenmahagjaaGreatDoorWithin
namespace Go.Proofs.YtimmkenmahagjaaGreatDoor
open Go.RowKit Go.Extern.Stop Go.Stop Go.Extern

/-- All blocks are kept, but one. -/
def KeepBut (w w1 : World) (ob : Option Nat) : Prop := ∀ (b : Nat) (o : Obj), w.heap[b]? = some o → ob ≠ some b → w1.heap[b]? = some o
theorem KeepBut.of_below {w w1 : World} (h : Below w.heap.size w w1) (ob : Option Nat) : KeepBut w w1 ob := fun _ _ q _ => block_keep h q
theorem KeepBut.of_grown {w w1 : World} {ob : Option Nat} (h : w.grownBy w1 ob) : KeepBut w w1 ob := fun b o q hne => by
  have hlt : b < w.heap.size := (Array.getElem?_eq_some_iff.1 q).1
  rw [h.block b hlt (fun e => hne e.symm)]
  exact q
theorem KeepBut.trans {w w1 w2 : World} {ob : Option Nat} (h1 : KeepBut w w1 ob) (h2 : KeepBut w1 w2 ob) : KeepBut w w2 ob := fun b o q hne => h2 b o (h1 b o q hne) hne
theorem ownBlock_lt {w : World} {B : Nat} {e : TypeId} {k n : Nat} {v : Value} {xs : List Value} (h : w.ownsRow B e k v n xs) {g : Nat} (hg : v.ownBlock = some g) : g < w.heap.size ∧ ∃ cs, w.heap[g]? = some (.cells cs e (0, 0)) := by
  rcases h.2 with ⟨rfl, _⟩ | ⟨g', cap, cur, rfl, _, hh, _⟩
  · cases hg
  · have : g' = g := by simpa [Value.ownBlock] using hg
    subst this
    exact ⟨(Array.getElem?_eq_some_iff.1 hh).1, cur, hh⟩
theorem owns_keepBut {w w1 : World} {B : Nat} {e : TypeId} {k n : Nat} {v : Value} {xs : List Value} {ob : Option Nat} (h : w.ownsRow B e k v n xs) (hk : KeepBut w w1 ob) (hne : v.ownBlock = none ∨ v.ownBlock ≠ ob) : w1.ownsRow B e k v n xs := by
  refine ⟨h.1, ?_⟩
  rcases h.2 with q | ⟨g, cap, cur, rfl, hb, hh, hr⟩
  · exact Or.inl q
  · refine Or.inr ⟨g, cap, cur, rfl, hb, hk g _ hh (fun e => ?_), hr⟩
    rcases hne with q | q
    · cases q
    · exact q e.symm
/-- Two rows that do not lie in one place. -/
def ApartR (u o : Value) : Prop := o.ownBlock = none ∨ o.ownBlock ≠ u.ownBlock
theorem ApartR.symm {u o : Value} (h : ApartR u o) : ApartR o u := by
  rcases h with h | h
  · cases hu : u.ownBlock with
    | none => exact Or.inl hu
    | some k => right; rw [h, hu]; exact fun e => by cases e
  · exact Or.inr fun e => h e.symm
structure Rows2 (w : World) (B g : Nat) (zss : List (List Int)) (us : List Value) : Prop where
  low : B ≤ g
  lu : us.length = zss.length
  blk : w.heap[g]? = some (.cells us.toArray TSI (0, 0))
  own : ∀ j, j < zss.length → w.ownsRow B 3 1 (us.getD j .nilIface) (zss.getD j []).length ((zss.getD j []).map intV)
  apart : ∀ i j, i < zss.length → j < zss.length → i ≠ j → ApartR (us.getD i .nilIface) (us.getD j .nilIface)
theorem Rows2.below {w w' : World} {B g : Nat} {zss : List (List Int)} {us : List Value} (h : Rows2 w B g zss us) (hb : Below w.heap.size w w') : Rows2 w' B g zss us :=
  ⟨h.low, h.lu, block_keep hb h.blk, fun j hj => owns_below (h.own j hj) hb, h.apart⟩
theorem Rows2.lt {w : World} {B g : Nat} {zss : List (List Int)} {us : List Value} (h : Rows2 w B g zss us) : g < w.heap.size := (Array.getElem?_eq_some_iff.1 h.blk).1
theorem Rows2.cell {w : World} {B g : Nat} {zss : List (List Int)} {us : List Value} (h : Rows2 w B g zss us) (j : Nat) (hj : j < zss.length) : w.cell? ⟨g, j, none⟩ = some (us.getD j .nilIface) := by
  rw [Lib.cell_of_heap h.blk]
  have : j < us.length := by rw [h.lu]; exact hj
  simp [List.getD, this]
theorem Rows2.form {w : World} {B g : Nat} {zss : List (List Int)} {us : List Value} (h : Rows2 w B g zss us) (j : Nat) (hj : j < zss.length) : ∃ a c, us.getD j .nilIface = .slice a (zss.getD j []).length c := owns_form (h.own j hj)
theorem Rows2.frz {w : World} {B g : Nat} {zss : List (List Int)} {us : List Value} (h : Rows2 w B g zss us) (j : Nat) : w.frozen? ⟨g, j, none⟩ = false := Lib.frozen_of_heap h.blk j
/-- No row lies where the row of rows lies. -/
theorem Rows2.ne {w : World} {B g : Nat} {zss : List (List Int)} {us : List Value} (h : Rows2 w B g zss us) (j : Nat) (hj : j < zss.length) : (us.getD j .nilIface).ownBlock ≠ some g := fun q => by
  obtain ⟨_, cs, hh⟩ := ownBlock_lt (h.own j hj) q
  rw [h.blk] at hh
  injection hh with hh
  injection hh with _ h3 _
  exact absurd h3 (by decide)
theorem Rows2.isSets {w : World} {B g : Nat} {zss : List (List Int)} {us : List Value} (h : Rows2 w B g zss us) (c : Nat) : IsSets w (.slice (some ⟨g, 0, none⟩) zss.length c) zss :=
  ⟨_, c, rfl, fun j hj => ⟨g, 0, us.getD j .nilIface, rfl, by rw [Nat.zero_add]; exact h.cell j hj, (isCap_of_owns (by
    obtain ⟨a, c', e⟩ := h.form j hj
    have := h.own j hj
    rw [e] at this ⊢
    exact this)).1⟩⟩
/-- One row is turned into another one. -/
theorem Rows2.put {w w1 : World} {B g : Nat} {zss : List (List Int)} {us : List Value} (h : Rows2 w B g zss us) (k : Nat) (hk : k < zss.length) (v' : Value) (zs : List Int) (hkeep : KeepBut w w1 (us.getD k .nilIface).ownBlock)
    (hv : w1.ownsRow B 3 1 v' zs.length (zs.map intV)) (hob : v'.ownBlock = (us.getD k .nilIface).ownBlock ∨ ∀ g', v'.ownBlock = some g' → w.heap.size ≤ g') : Rows2 (w1.setCell ⟨g, k, none⟩ v') B g (zss.set k zs) (us.set k v') := by
  have hb1 : w1.heap[g]? = some (.cells us.toArray TSI (0, 0)) := hkeep g _ h.blk (h.ne k hk)
  have hku : k < us.length := by rw [h.lu]; exact hk
  have hset := kept_setCell (i := k) hb1 v'
  refine ⟨h.low, by rw [List.length_set, List.length_set]; exact h.lu, ?_, fun j hj => ?_, fun i j hi hj hij => ?_⟩
  · rw [set_block _ _ _ _ _ _ hb1]
    simp
  · rw [List.length_set] at hj
    by_cases e : j = k
    · subst e
      rw [show (zss.set j zs).getD j [] = zs by simp [List.getD, hk], show (us.set j v').getD j .nilIface = v' by simp [List.getD, hku]]
      exact owns_kept hv hset (by decide)
    · rw [getD_set_otherE _ _ _ _ _ (fun q => e q.symm), getD_set_otherE _ _ _ _ _ (fun q => e q.symm)]
      exact owns_kept (owns_keepBut (h.own j hj) hkeep (h.apart k j hk hj (fun q => e q.symm))) hset (by decide)
  · rw [List.length_set] at hi hj
    have key : ∀ j, j < zss.length → j ≠ k → ApartR v' (us.getD j .nilIface) := fun j hj hne => by
      rcases hob with q | q
      · have := h.apart k j hk hj (fun e => hne e.symm)
        unfold ApartR at this ⊢
        rw [q]; exact this
      · cases e1 : (us.getD j .nilIface).ownBlock with
        | none => exact Or.inl e1
        | some b =>
          right
          intro e2
          have h1 := q b (by rw [← e2, e1])
          have h2 := (ownBlock_lt (h.own j hj) e1).1
          omega
    by_cases e1 : i = k
    · subst e1
      rw [show (us.set i v').getD i .nilIface = v' by simp [List.getD, hku], getD_set_otherE _ _ _ _ _ hij]
      exact key j hj (fun q => hij q.symm)
    · by_cases e2 : j = k
      · subst e2
        rw [show (us.set j v').getD j .nilIface = v' by simp [List.getD, hku], getD_set_otherE _ _ _ _ _ (fun q => hij q.symm)]
        exact (key i hi hij).symm
      · rw [getD_set_otherE _ _ _ _ _ (fun q => e1 q.symm), getD_set_otherE _ _ _ _ _ (fun q => e2 q.symm)]
        exact h.apart i j hi hj hij

/-- Numbers behind a row of one's own, and where it lies then. -/
theorem append_intsX (w : World) (base : Nat) (v : Value) (n : Nat) (xs : List Value) (hown : w.ownsRow base 3 1 v n xs) (x : Value) (zs : List Int) (hx : IsInts w x zs)
    (hbd : n + zs.length ≤ 1000000000000) (hbase : base ≤ w.heap.size) (ty : TypeId) :
    ∃ v' w', (Builtin.append_ #[42, 42] ty #[v, x]).run Tryz.prog w = .ok v' w' ∧ w'.ownsRow base 3 1 v' (n + zs.length) (xs ++ zs.map (Value.int .i64)) ∧ w.grownBy w' v.ownBlock ∧ (v'.ownBlock = v.ownBlock ∨ v'.ownBlock = some w.heap.size) := by
  obtain ⟨i0, hi, hz0, hz1, hz2⟩ := info_parts Tryz.infoIntS
  have some_case : ∀ (ad : Addr) (c : Nat), x = .slice (some ad) zs.length c → (∀ j u, (zs.map (Value.int .i64))[j]? = some u → w.cell? (ad.add j) = some u) →
      ∃ v' w', (Builtin.append_ #[42, 42] ty #[v, x]).run Tryz.prog w = .ok v' w' ∧ w'.ownsRow base 3 1 v' (n + zs.length) (xs ++ zs.map (Value.int .i64)) ∧ w.grownBy w' v.ownBlock ∧ (v'.ownBlock = v.ownBlock ∨ v'.ownBlock = some w.heap.size) := by
    intro ad c ex hc
    subst ex
    obtain ⟨v', w', h1, h2, h3, _, h5⟩ := run_append_own_at (P := Tryz.prog) w base 42 ty 3 i0 (.int .i64 0) 1 8 Tryz.underlying42 hi hz0 hz1 hz2 rfl (by decide) v n xs hown ad zs.length c (zs.map (Value.int .i64)) (by simp) hc
      (fun u hu => by obtain ⟨y, _, rfl⟩ := List.mem_map.1 hu; rfl) (by unfold maxLen; omega) (by omega) hbase
    exact ⟨v', w', h1, h2, h3, h5⟩
  rcases hx with ⟨hz, a, c, rfl⟩ | ⟨hz, b, o, c, rfl, hc⟩
  · subst hz
    cases a with
    | some ad => exact some_case ad c rfl (fun j u hj => by simp at hj)
    | none =>
      clear some_case
      rcases hown.2 with ⟨rfl, rfl⟩ | ⟨g, cap, cur, rfl, hb, hg, hnc, hcm, hs, ht⟩
      · refine ⟨.slice none 0 0, w, ?_, by simpa using hown, ⟨rfl, rfl, rfl, Nat.le_refl _, fun _ _ _ => rfl⟩, Or.inl rfl⟩
        simp [Builtin.append_, run_underlying Tryz.underlying42, sizeOf, typeInfo, hi, Builtin.lenOf, Builtin.firstCells]
      · refine ⟨.slice (some ⟨g, 0, none⟩) n cap, w, ?_, by simpa using hown, ⟨rfl, rfl, rfl, Nat.le_refl _, fun _ _ _ => rfl⟩, Or.inl rfl⟩
        simp [Builtin.append_, run_underlying Tryz.underlying42, sizeOf, typeInfo, hi, Builtin.lenOf, Builtin.firstCells, hnc, storeCells]
  · refine some_case ⟨b, o, none⟩ c rfl (fun j u hj => ?_)
    have hjl : j < zs.length := by have := (List.getElem?_eq_some_iff.1 hj).1; simpa using this
    rw [Addr.add_lit, hc j hjl]
    rw [← hj]
    simp [List.getD, hjl]
/-- A row of numbers more behind row k: the run of the append, and what is stored then. -/
theorem Rows2.more {w0 w : World} {g : Nat} {zss : List (List Int)} {us : List Value} (h : Rows2 w w0.heap.size g zss us) (hw : Below w0.heap.size w0 w) (k : Nat) (hk : k < zss.length) (x : Value) (zs : List Int) (hx : IsInts w x zs) (hbd : (zss.getD k []).length + zs.length ≤ 1000000000000) (ty : TypeId) :
    ∃ va vn vc w', (Builtin.append_ #[42, 42] ty #[us.getD k .nilIface, x]).run Tryz.prog w = .ok (.slice va vn vc) w' ∧ vn = ((zss.getD k []) ++ zs).length ∧ Rows2 (w'.setCell ⟨g, k, none⟩ (.slice va vn vc)) w0.heap.size g (zss.set k ((zss.getD k []) ++ zs)) (us.set k (.slice va vn vc)) ∧ Below w0.heap.size w w' ∧ KeepBut w w' (us.getD k .nilIface).ownBlock := by
  obtain ⟨v', w', hr, ho, hg, hb⟩ := append_intsX w w0.heap.size _ _ _ (h.own k hk) x zs hx hbd hw.size ty
  obtain ⟨va, vc, rfl⟩ := owns_form ho
  refine ⟨va, _, vc, w', hr, by rw [List.length_append], ?_, below_of_grownS hg hw.size (h.own k hk) (Nat.le_refl _), KeepBut.of_grown hg⟩
  refine h.put k hk _ _ (KeepBut.of_grown hg) ?_ ?_
  · rw [List.length_append, List.map_append]; exact ho
  · rcases hb with q | q
    · exact Or.inl q
    · right
      intro g' hg'
      rw [q] at hg'
      injection hg' with e
      omega
theorem make_rows (n : Nat) (hn : n ≤ 1000000) (w : World) : (Instr.makeSlice 27 (.int .i64 (n : Int)) (.int .i64 (n : Int))).run Tryz.prog w = .ok (.slice (some ⟨w.heap.size, 0, none⟩) n n) (w.alloc (.cells (Array.replicate n (Value.slice none 0 0)) TSI)) := by
  obtain ⟨i, hi, hz, hs, hb⟩ := info_parts Tryz.infoInts
  have := run_make (P := Tryz.prog) w 27 TSI i _ Tryz.underlying27 hi hz .i64 .i64 n n (by omega) (Int.le_refl _) (by rw [hb]; omega) (by omega)
  simp only [Int.toNat_natCast, hs, Nat.mul_one] at this
  rw [this, show madeCells (Value.slice none 0 0).cells n = (Array.replicate n (Value.slice none 0 0)) from by rw [← List.toArray_replicate, ← toList_madeCells_one, Array.toArray_toList]; rfl]
theorem getD_replicateR {α : Type} (n : Nat) (x d : α) (j : Nat) (hj : j < n) : (List.replicate n x).getD j d = x := by simp [List.getD, hj]
theorem Rows2.make (w : World) (n : Nat) : Rows2 (w.alloc (.cells (Array.replicate n (Value.slice none 0 0)) TSI)) w.heap.size w.heap.size (List.replicate n []) (List.replicate n (.slice none 0 0)) := by
  refine ⟨Nat.le_refl _, by simp, by rw [List.toArray_replicate]; exact heap_new w _, fun j hj => ?_, fun i j hi hj hij => ?_⟩
  · rw [List.length_replicate] at hj
    rw [getD_replicateR _ _ _ _ hj, getD_replicateR _ _ _ _ hj]
    exact World.ownsRow_nil _ _ _ _
  · rw [List.length_replicate] at hi hj
    rw [getD_replicateR _ _ _ _ hj]
    exact Or.inl rfl
end Go.Proofs.YtimmkenmahagjaaGreatDoor

/-
  Package fix, gather: plain.
-/
namespace Go.Proofs.YtimmkenmahagjaaGreatDoor
open Go.RowKit Go.Extern.Stop Go.Stop Go.Extern

/-- What a node has gathered. -/
def gotAt (hs : List (List Int)) (rs : List RuleD) (es : List Pair) (j : Nat) : List Int :=
  hs.getD j [] ++ (rs.filter fun r => r.kind == kBase && r.a == (j : Int)).map (·.b) ++ (es.filter fun p => p.2 == (j : Int)).flatMap fun p => setAt hs p.1
def gotK (hs : List (List Int)) (rs : List RuleD) (es : List Pair) : List (List Int) := (List.range hs.length).map (gotAt hs rs es)
theorem gotK_len (hs : List (List Int)) (rs : List RuleD) (es : List Pair) : (gotK hs rs es).length = hs.length := by simp [gotK]
theorem gotK_at (hs : List (List Int)) (rs : List RuleD) (es : List Pair) (j : Nat) (hj : j < hs.length) : (gotK hs rs es).getD j [] = gotAt hs rs es j := by simp [gotK, List.getD, hj]
theorem gotK_start (hs : List (List Int)) : gotK hs [] [] = hs := by
  refine sets_eq (gotK_len _ _ _) fun j hj => ?_
  rw [gotK_len] at hj
  rw [gotK_at _ _ _ _ hj]
  simp [gotAt]
theorem gotK_set (hs : List (List Int)) (rs rs' : List RuleD) (es es' : List Pair) (k : Nat) (hk : k < hs.length) (zs : List Int) (h1 : gotAt hs rs' es' k = gotAt hs rs es k ++ zs) (h2 : ∀ j, j ≠ k → gotAt hs rs' es' j = gotAt hs rs es j) :
    (gotK hs rs es).set k ((gotK hs rs es).getD k [] ++ zs) = gotK hs rs' es' := by
  refine sets_eq (by rw [List.length_set, gotK_len, gotK_len]) fun j hj => ?_
  rw [List.length_set, gotK_len] at hj
  rw [gotK_at _ _ _ _ hk, gotK_at hs rs' es' j hj]
  by_cases e : j = k
  · subst e
    rw [h1]
    simp [List.getD, gotK_len, hj]
  · rw [getD_set_otherE _ _ _ _ _ (fun q => e q.symm), gotK_at _ _ _ _ hj, h2 j e]
theorem gotK_base (hs : List (List Int)) (rs : List RuleD) (r : RuleD) (hk : r.kind = kBase) (k : Nat) (ha : r.a = (k : Int)) (hl : k < hs.length) : (gotK hs rs []).set k ((gotK hs rs []).getD k [] ++ [r.b]) = gotK hs (rs ++ [r]) [] :=
  gotK_set hs rs (rs ++ [r]) [] [] k hl [r.b] (by simp [gotAt, List.filter_append, hk, ha]) (fun j hj => by
    have : ¬ r.a = (j : Int) := by omega
    simp [gotAt, List.filter_append, this])
theorem gotK_skip (hs : List (List Int)) (rs : List RuleD) (r : RuleD) (hk : r.kind ≠ kBase) : gotK hs (rs ++ [r]) [] = gotK hs rs [] := by
  unfold gotK
  congr 1
  funext j
  simp [gotAt, List.filter_append, hk]
theorem gotK_edge (hs : List (List Int)) (rs : List RuleD) (es : List Pair) (p : Pair) (k : Nat) (ha : p.2 = (k : Int)) (hl : k < hs.length) : (gotK hs rs es).set k ((gotK hs rs es).getD k [] ++ setAt hs p.1) = gotK hs rs (es ++ [p]) :=
  gotK_set hs rs rs es (es ++ [p]) k hl (setAt hs p.1) (by simp [gotAt, List.filter_append, ha]) (fun j hj => by
    have : ¬ p.2 = (j : Int) := by omega
    simp [gotAt, List.filter_append, this])
theorem setAt_len {hs : List (List Int)} {c : Nat} (h : ∀ j, j < hs.length → (hs.getD j []).length ≤ c) (k : Int) : (setAt hs k).length ≤ c := by
  unfold setAt
  by_cases hk : k.toNat < hs.length
  · exact h _ hk
  · rw [getD_none _ _ hk]; exact Nat.zero_le _
theorem gotAt_len {hs : List (List Int)} (rs : List RuleD) (es : List Pair) {c : Nat} (h : ∀ j, j < hs.length → (hs.getD j []).length ≤ c) (j : Nat) (hj : j < hs.length) : (gotAt hs rs es j).length ≤ c + rs.length + (es.filter fun p => p.2 == (j : Int)).length * c := by
  unfold gotAt
  rw [List.length_append, List.length_append, List.length_map]
  have h1 := h j hj
  have h2 := (List.filter_sublist (p := fun r : RuleD => r.kind == kBase && r.a == (j : Int)) (l := rs)).length_le
  have h3 := flat_len (es.filter fun p => p.2 == (j : Int)) (fun p => setAt hs p.1) c (fun p _ => setAt_len h p.1)
  omega
/-- No more edges come to a node than there are nodes. -/
theorem into_len {es : List Pair} {n : Nat} (hu : es.Pairwise ltE) (h : ∀ p ∈ es, 0 ≤ p.1 ∧ p.1 < (n : Int)) (j : Nat) : (es.filter fun p => p.2 == (j : Int)).length ≤ n := by
  have hp : ((es.filter fun p => p.2 == (j : Int)).map (·.1)).Pairwise (· < ·) := by
    rw [List.pairwise_map, List.pairwise_filter]
    refine hu.imp ?_
    intro p q hlt h1 h2
    simp only [beq_iff_eq] at h1 h2
    unfold ltE at hlt
    omega
  have hm : ∀ x ∈ (es.filter fun p => p.2 == (j : Int)).map (·.1), x ∈ (List.range n).map (fun i : Nat => (i : Int)) := fun x hx => by
    obtain ⟨p, hp, rfl⟩ := List.mem_map.1 hx
    have := h p (List.mem_filter.1 hp).1
    exact List.mem_map.2 ⟨p.1.toNat, List.mem_range.2 (by omega), by omega⟩
  have := rise_len hp hm
  simpa using this
/-- What is gathered by the edges that lead somewhere is what a round gathers. -/
theorem gather_round {P : ProgD} {hs : List (List Int)} {es : List Pair} (he : EdgeSet (foundD P hs) es) : (gotK hs (rulesD P) es).map norm = roundD P hs := by
  refine sets_eq (by rw [List.length_map, gotK_len, roundD_len]) fun j hj => ?_
  rw [List.length_map, gotK_len] at hj
  rw [roundD_at P hs j hj, show ((gotK hs (rulesD P) es).map norm).getD j [] = norm ((gotK hs (rulesD P) es).getD j []) by simp [List.getD, gotK_len, hj], gotK_at _ _ _ _ hj]
  refine norm_congr fun x => ?_
  rw [gotD_mem]
  unfold gotAt
  rw [List.mem_append, List.mem_append, or_assoc, List.mem_map, List.mem_flatMap]
  constructor
  · rintro (h | ⟨r, hr, rfl⟩ | ⟨p, hp, hx⟩)
    · exact Or.inl h
    · obtain ⟨h1, h2⟩ := List.mem_filter.1 hr
      simp only [Bool.and_eq_true, beq_iff_eq] at h2
      exact Or.inr (Or.inl ⟨r, h1, h2.1, h2.2, rfl⟩)
    · obtain ⟨h1, h2⟩ := List.mem_filter.1 hp
      exact Or.inr (Or.inr ⟨p, ((he.mem p).1 h1).1, by simpa using h2, hx⟩)
  · rintro (h | ⟨r, hr, h1, h2, rfl⟩ | ⟨p, hp, h1, hx⟩)
    · exact Or.inl h
    · exact Or.inr (Or.inl ⟨r, List.mem_filter.2 ⟨hr, by simp [h1, h2]⟩, rfl⟩)
    · by_cases e : p.1 = p.2
      · left
        unfold setAt at hx
        rw [e, h1] at hx
        simpa using hx
      · exact Or.inr (Or.inr ⟨p, List.mem_filter.2 ⟨(he.mem p).2 ⟨hp, e⟩, by simpa using h1⟩, hx⟩)
end Go.Proofs.YtimmkenmahagjaaGreatDoor

/-
  Package fix: gather, by a contract.
-/
namespace Go.Proofs.YtimmkenmahagjaaGreatDoor
open Go.RowKit Go.Extern.Stop Go.Stop Go.Extern
attribute [local go_sem ↓] Go.wp_at_zero Go.wp_at_succ

theorem clone_any (zs : List Int) (v : Value) (w : World) (hm : zs.length ≤ 1000000) (h : IsInts w v zs) :
    Calls Tryz.prog 89 #[v] w fun e w' => ∃ a c, e = .returned (.slice a zs.length c) ∧ w'.ownsRow w.heap.size 3 1 (.slice a zs.length c) zs.length (zs.map intV) ∧ Below w.heap.size w w' := by
  rcases h with ⟨rfl, a, c, rfl⟩ | ⟨hz, b, o, c, rfl, hc⟩
  · cases a with
    | none =>
      refine (Tryz.slices_Clone_int_nil 0 c w).mono ?_
      rintro e w' ⟨rfl, rfl⟩
      exact ⟨none, 0, rfl, World.ownsRow_nil _ _ _ _, Below.refl _ _⟩
    | some ad =>
      refine (Tryz.slices_Clone_int_zero ad c w).mono ?_
      rintro e w' ⟨v', rfl, h1, -, h2⟩
      obtain ⟨va, vc, rfl⟩ := owns_form h1
      exact ⟨va, vc, rfl, h1, h2⟩
  · refine (Tryz.slices_Clone_int b o zs.length c zs w (Nat.le_refl _) (by omega) hc).mono ?_
    rintro e w' ⟨v', rfl, h1, -, h2⟩
    rw [List.take_length] at h1
    obtain ⟨va, vc, rfl⟩ := owns_form h1
    exact ⟨va, vc, rfl, h1, h2⟩
theorem ownBlock_ge {w : World} {B : Nat} {e : TypeId} {k n : Nat} {v : Value} {xs : List Value} (h : w.ownsRow B e k v n xs) (g : Nat) (hg : v.ownBlock = some g) : B ≤ g := by
  rcases h.2 with ⟨rfl, _⟩ | ⟨g', cap, cur, rfl, hb, _⟩
  · cases hg
  · have : g' = g := by simpa [Value.ownBlock] using hg
    omega
/-- The first k of n rows. -/
def fillL (hs : List (List Int)) (k n : Nat) : List (List Int) := (List.range n).map fun j => if j < k then hs.getD j [] else []
theorem fillL_len (hs : List (List Int)) (k n : Nat) : (fillL hs k n).length = n := by simp [fillL]
theorem fillL_at (hs : List (List Int)) (k n j : Nat) (hj : j < n) : (fillL hs k n).getD j [] = if j < k then hs.getD j [] else [] := by simp [fillL, List.getD, hj]
theorem fillL_zero (hs : List (List Int)) (n : Nat) : fillL hs 0 n = List.replicate n [] := sets_eq (by simp [fillL]) fun j hj => by
  rw [fillL_len] at hj
  rw [fillL_at _ _ _ _ hj, getD_replicateR _ _ _ _ hj, if_neg (Nat.not_lt_zero _)]
theorem fillL_full (hs : List (List Int)) (n : Nat) (h : n = hs.length) : fillL hs n n = hs := sets_eq (by rw [fillL_len, h]) fun j hj => by
  rw [fillL_len] at hj
  rw [fillL_at _ _ _ _ hj, if_pos hj]
theorem fillL_set (hs : List (List Int)) (k n : Nat) (hk : k < n) : (fillL hs k n).set k (hs.getD k []) = fillL hs (k + 1) n := sets_eq (by rw [List.length_set, fillL_len, fillL_len]) fun j hj => by
  rw [List.length_set, fillL_len] at hj
  rw [fillL_at _ (k + 1) _ _ hj]
  by_cases e : j = k
  · subst e
    rw [if_pos (Nat.lt_succ_self _)]
    simp [List.getD, fillL_len, hj]
  · rw [getD_set_otherE _ _ _ _ _ (fun q => e q.symm), fillL_at _ _ _ _ hj]
    by_cases h : j < k
    · rw [if_pos h, if_pos (by omega)]
    · rw [if_neg h, if_neg (by omega)]
/-- At a step of a region that draws: numbers behind row k. -/
theorem step_more {ops : Array Oper} {o : Oper} {a : Act} {w : World} {K : Act → World → Prop} {Q : Exit → Act → World → Prop} {E : Prop} (hgd : o.guard = none) (s x : Operand)
    (ho : o.op = .call { callee := .builtin .append, args := #[s, x], argTypes := #[42, 42] }) {w0 : World} {g : Nat} {zss : List (List Int)} {us : List Value} (k : Nat) (ua : Option Addr) (un uc : Nat) (xv : Value) (zs : List Int)
    (hs : a.eval s = .slice ua un uc) (hxe : a.eval x = xv) (hR : Rows2 w w0.heap.size g zss us) (hw : Below w0.heap.size w0 w) (hk : k < zss.length) (hu : us.getD k .nilIface = .slice ua un uc) (hx : IsInts w xv zs) (hbd : (zss.getD k []).length + zs.length ≤ 1000000000000)
    (h : ∀ va vn vc w', Hid (Rows2 (w'.setCell ⟨g, k, none⟩ (.slice va vn vc)) w0.heap.size g (zss.set k (zss.getD k [] ++ zs)) (us.set k (.slice va vn vc)) ∧ Below w0.heap.size w0 (w'.setCell ⟨g, k, none⟩ (.slice va vn vc))) → KeepBut w w' (Value.slice ua un uc).ownBlock → Below w0.heap.size w0 w' → w'.cell? ⟨g, k, none⟩ = some (.slice ua un uc) → w'.frozen? ⟨g, k, none⟩ = false → K (a.put o.dst (.slice va vn vc)) w') :
    if Region.wanted o (yielded ops a.tmps) = true then Oper.wp Tryz.prog o a w K Q else E := by
  obtain ⟨va, vn, vc, w', hr, hvn, hR', hb, hkp⟩ := hR.more hw k hk xv zs hx hbd o.type
  rw [hu] at hr hkp
  have hg : w'.heap[g]? = some (.cells us.toArray TSI (0, 0)) := hkp g _ hR.blk (by have := hR.ne k hk; rw [hu] at this; exact this)
  have hku : k < us.length := by rw [hR.lu]; exact hk
  refine step_append_run hgd s x _ _ ho _ _ hs hxe _ w' hr (h va vn vc w' ⟨hR', (hw.trans hb).setCell hR.low _⟩ hkp (hw.trans hb) ?_ (Lib.frozen_of_heap hg k))
  rw [Lib.cell_of_heap hg, ← hu]
  simp [List.getD, hku]
theorem set_otherF (w : World) (g k : Nat) (x : Value) (b : Nat) (h : g ≠ b) : (w.setCell ⟨g, k, none⟩ x).heap[b]? = w.heap[b]? := by
  simp only [World.setCell, Array.getElem?_modify]
  rw [if_neg h]
/-- A block that is kept, and its cells. -/
theorem keepRule {w : World} {bx : Nat} {kd : ByteArray} {x1 x2 x3 : Int} {av : Value} (h : w.heap[bx]? = some (ruleBox kd x1 x2 x3 av)) : w.heap[bx]? = some (ruleBox kd x1 x2 x3 av) ∧ w.cell? ⟨bx, 1, none⟩ = some (.int .i64 x1) ∧ w.cell? ⟨bx, 2, none⟩ = some (.int .i64 x2) :=
  ⟨h, by rw [Lib.cell_of_heap h]; rfl, by rw [Lib.cell_of_heap h]; rfl⟩
theorem keepEdge {w0 w : World} {bx : Nat} {x1 x2 : Int} {hb ho : Nat} {hv : Value} (hB : Below w0.heap.size w0 w) (h : w.heap[bx]? = some (.cells #[.int .i64 x1, .int .i64 x2] TE (0, 0))) (h0 : w0.cell? ⟨hb, ho, none⟩ = some hv) :
    Below w0.heap.size w0 w ∧ w.heap[bx]? = some (.cells #[.int .i64 x1, .int .i64 x2] TE (0, 0)) ∧ w.cell? ⟨bx, 0, none⟩ = some (.int .i64 x1) ∧ w.cell? ⟨bx, 1, none⟩ = some (.int .i64 x2) ∧ w.cell? ⟨hb, ho, none⟩ = some hv :=
  ⟨hB, h, by rw [Lib.cell_of_heap h]; rfl, by rw [Lib.cell_of_heap h]; rfl, cell_keep hB h0⟩
theorem block_drew {w : World} {b : Nat} {o : Obj} (h : w.heap[b]? = some o) : w.drew.heap[b]? = some o := h
theorem block_al {w : World} {b : Nat} {o : Obj} (h : w.heap[b]? = some o) (o' : Obj) : (w.alloc o').heap[b]? = some o := block_keep (below1 w _) h
theorem block_but {w w' : World} {ob : Option Nat} {b : Nat} {o : Obj} (h : w.heap[b]? = some o) (hk : KeepBut w w' ob) (hne : ob ≠ some b) : w'.heap[b]? = some o := hk b o h hne
theorem block_st {w : World} {g k b : Nat} {x : Value} {o : Obj} (h : w.heap[b]? = some o) (hne : g ≠ b) : (w.setCell ⟨g, k, none⟩ x).heap[b]? = some o := by rw [set_otherF _ _ _ _ _ hne]; exact h

set_option maxRecDepth 100000 in
set_option maxHeartbeats 16000000 in
theorem gather_any (hs : List (List Int)) (rs : List RuleD) (es : List Pair) (hv rv ev : Value) (w : World) (hH : IsSets w hv hs) (hRs : IsRules w rv rs) (hEs : IsPairs w ev es)
    (hr : ∀ r ∈ rs, r.kind = kBase → 0 ≤ r.a ∧ r.a.toNat < hs.length) (he : ∀ p ∈ es, (0 ≤ p.1 ∧ p.1.toNat < hs.length) ∧ (0 ≤ p.2 ∧ p.2.toNat < hs.length))
    (hn : hs.length ≤ 1000000) (hl : ∀ j, j < hs.length → (hs.getD j []).length ≤ 100000) (hrl : rs.length ≤ 1000000) (hel : es.length ≤ 1000000) :
    Calls Tryz.prog 65 #[hv, rv, ev] w fun e w' => ∃ us, e = .returned (.slice (some ⟨w.heap.size, 0, none⟩) hs.length hs.length) ∧ Rows2 w' w.heap.size w.heap.size (gotK hs rs es) us ∧ Below w.heap.size w w' := by
  have HH : Hid (IsSets w hv hs) := hH
  obtain ⟨va, vc, rfl, hrow⟩ := hH
  obtain ⟨ra, rc, rfl, hrr⟩ := hRs
  obtain ⟨ea, ec, rfl, hpp⟩ := hEs
  obtain ⟨n, hnn⟩ : ∃ n, n = hs.length := ⟨_, rfl⟩
  obtain ⟨nr, hnr⟩ : ∃ n, n = rs.length := ⟨_, rfl⟩
  obtain ⟨ne, hne⟩ : ∃ n, n = es.length := ⟨_, rfl⟩
  have HN : Hid (n = hs.length ∧ nr = rs.length ∧ ne = es.length) := ⟨hnn, hnr, hne⟩
  have HL : Hid ((∀ j, j < n → (hs.getD j []).length ≤ 100000) ∧ (∀ j, j < n → ((gotK hs rs es).getD j []).length ≤ 900000000000)) := by
    refine ⟨fun j hj => hl j (by omega), fun j hj => ?_⟩
    rw [gotK_at _ _ _ _ (by omega)]
    have h1 := gotAt_len rs es hl j (by omega)
    have h2 := (List.filter_sublist (p := fun p : Pair => p.2 == (j : Int)) (l := es)).length_le
    have h3 : (es.filter fun p => p.2 == (j : Int)).length * 100000 ≤ 1000000 * 100000 := Nat.mul_le_mul (by omega) (Nat.le_refl _)
    omega
  have HGL : Hid (∀ k m j, j < n → ((gotK hs (rs.take k) (es.take m)).getD j []).length ≤ 900000000000) := fun k m j hj => by
    rw [gotK_at _ _ _ _ (by omega)]
    have h1 := gotAt_len (rs.take k) (es.take m) hl j (by omega)
    have h2 := (List.filter_sublist (p := fun p : Pair => p.2 == (j : Int)) (l := es.take m)).length_le
    have h4 : (es.take m).length ≤ es.length := (List.take_sublist _ _).length_le
    have h5 : (rs.take k).length ≤ rs.length := (List.take_sublist _ _).length_le
    have h3 : ((es.take m).filter fun p => p.2 == (j : Int)).length * 100000 ≤ 1000000 * 100000 := Nat.mul_le_mul (by omega) (Nat.le_refl _)
    omega
  rw [← hnn] at hrow hn ⊢
  rw [← hnr] at hrr hrl ⊢
  rw [← hne] at hpp hel ⊢
  have HS : Hid (∀ wx, Below w.heap.size w wx → ∀ j, j < n → ∃ b o x, va = some ⟨b, o, none⟩ ∧ wx.cell? ⟨b, o + j, none⟩ = some x ∧ IsInts wx x (hs.getD j [])) := fun wx hb j hj => by
    obtain ⟨b, o, x, h1, h2, h3⟩ := hrow j hj
    exact ⟨b, o, x, h1, cell_keep hb h2, h3.below hb⟩
  have HR : Hid (∀ wx, Below w.heap.size w wx → ∀ j, j < nr → ∃ b, ra = some ⟨b, 0, none⟩ ∧ RuleAt wx b j (rs.getD j default)) := fun wx hb j hj => by
    obtain ⟨b, h1, h2⟩ := hrr j hj
    exact ⟨b, h1, h2.below hb⟩
  have HE : Hid (∀ wx, Below w.heap.size w wx → ∀ j, j < ne → ∃ g, ea = some ⟨g, 0, none⟩ ∧ wx.cell? ⟨g, j * 2, none⟩ = some (.int .i64 (es.getD j default).1) ∧ wx.cell? ⟨g, j * 2 + 1, none⟩ = some (.int .i64 (es.getD j default).2)) := fun wx hb j hj => by
    obtain ⟨g, h1, h2, h3⟩ := hpp j hj
    exact ⟨g, h1, cell_keep hb h2, cell_keep hb h3⟩
  have HRE : Hid ((∀ j, j < nr → (rs.getD j default).kind = kBase → 0 ≤ (rs.getD j default).a ∧ (rs.getD j default).a.toNat < n) ∧ ∀ j, j < ne → (0 ≤ (es.getD j default).1 ∧ (es.getD j default).1.toNat < n) ∧ (0 ≤ (es.getD j default).2 ∧ (es.getD j default).2.toNat < n)) := by
    refine ⟨fun j hj hk => ?_, fun j hj => ?_⟩
    · have := hr _ (getDmC (by omega : j < rs.length)) hk
      omega
    · have := he _ (getDmC (by omega : j < es.length))
      omega
  obtain ⟨g, hg⟩ : ∃ g, g = w.heap.size := ⟨_, rfl⟩
  have HG : Hid (g = w.heap.size) := hg
  have HM := make_rows n (by omega) w
  have H0 : Hid (∀ wx, wx = w.alloc (.cells (Array.replicate n (Value.slice none 0 0)) TSI) → Rows2 wx w.heap.size g (fillL hs 0 n) (List.replicate n (.slice none 0 0)) ∧ Below w.heap.size w wx) := fun wx hwx => by
    rw [hwx, hg, fillL_zero]
    exact ⟨Rows2.make w n, below1 w _⟩
  rw [← hg] at HM ⊢
  clear hrow hrr hpp hr he hl hnn hnr hne HH hg
  go_enter Tryz.func65, Tryz.ntmps65
  go_upto_region 3 with fail
  obtain ⟨W1, hW1⟩ : ∃ W1, W1 = w.alloc (.cells (Array.replicate n (Value.slice none 0 0)) TSI) := ⟨_, rfl⟩
  rw [← hW1]
  have HR0 := H0.out W1 hW1
  have HR0' : Hid _ := HR0
  clear HR0 H0 HM hW1
  go_loopw [19] (fun t wr => ∃ (k : Nat) (us : List Value), k ≤ n ∧ t = .int .i64 k ∧ Rows2 wr w.heap.size g (fillL hs k n) us ∧ Below w.heap.size w wr) (fun t _ => (n - intOf t).toNat)
  case atStart => exact ⟨0, _, Nat.zero_le _, rfl, HR0'.out.1, HR0'.out.2⟩
  case round =>
    clear HR0'
    obtain ⟨k, us, hk, rfl, hRw, hwr⟩ := hrel
    by_cases hlt : k < n
    · obtain ⟨b, o, x, rfl, e0, hx⟩ := HS.out wr hwr k hlt
      have hki : (k : Int) < n := by omega
      have KC : Hid _ := clone_any (hs.getD k []) x wr (by have := HL.out.1 k hlt; omega) hx
      obtain ⟨xa, xc, rfl⟩ := isInts_form hx
      obtain ⟨m, hm⟩ : ∃ m, m = (hs.getD k []).length := ⟨_, rfl⟩
      rw [← hm] at e0 KC
      have HM : Hid (m = (hs.getD k []).length) := hm
      have HRw : Hid (Rows2 wr w.heap.size g (fillL hs k n) us ∧ Below w.heap.size w wr) := ⟨hRw, hwr⟩
      clear hm hRw hx hwr
      go_wp2_with fail
      refine Calls.mono KC.out ?_
      rintro e w2 ⟨qa, qc, rfl, ho2, hb2⟩
      have hR2 := HRw.out.1.below hb2
      have hkl : k < (fillL hs k n).length := by rw [fillL_len]; exact hlt
      have c2 := hR2.cell k hkl
      obtain ⟨ya, yc, hy⟩ := hR2.form k hkl
      rw [hy] at c2
      have f2 := hR2.frz k
      have HNX : Hid (Rows2 (w2.setCell ⟨g, k, none⟩ (.slice qa m qc)) w.heap.size g (fillL hs (k + 1) n) (us.set k (.slice qa m qc)) ∧ Below w.heap.size w (w2.setCell ⟨g, k, none⟩ (.slice qa m qc))) := by
        refine ⟨?_, (HRw.out.2.trans (hb2.mono HRw.out.2.size)).setCell hR2.low _⟩
        rw [← fillL_set hs k n hlt]
        refine HRw.out.1.put k hkl _ _ (KeepBut.of_below hb2 _) ?_ (Or.inr fun g' hg' => ownBlock_ge ho2 g' hg')
        rw [← HM.out]
        exact owns_mono ho2 HRw.out.2.size
      clear KC ho2 hR2 hy hb2 hkl
      go_wp2_with fail
      go_roundw
      case rel => exact ⟨k + 1, _, hlt, by go_num, HNX.out⟩
      case measure => simp [intOf]; omega
    · have hkn : k = n := by omega
      subst hkn
      rw [fillL_full hs k HN.out.1] at hRw
      obtain ⟨w1, hw1⟩ : ∃ w1, w1 = wr := ⟨_, rfl⟩
      rw [← hw1] at hRw hwr ⊢
      have HR1 : Hid (Rows2 w1 w.heap.size g (gotK hs (rs.take 0) []) us ∧ Below w.heap.size w w1) := ⟨by rw [List.take_zero, gotK_start]; exact hRw, hwr⟩
      clear hw1 hRw hwr hlt hk
      go_upto_region 8 with fail
      go_loopw [32] (fun t wr => ∃ (j : Nat) (us : List Value), j ≤ nr ∧ t = .int .i64 j ∧ Rows2 wr w.heap.size g (gotK hs (rs.take j) []) us ∧ Below w.heap.size w wr) (fun t _ => (nr - intOf t).toNat)
      case atStart => exact ⟨0, _, Nat.zero_le _, rfl, HR1.out.1, HR1.out.2⟩
      case round =>
        clear HR1 us
        obtain ⟨j, us, hj, rfl, hRw, hwr⟩ := hrel
        by_cases hlt : j < nr
        · obtain ⟨b, rfl, av, e0, e1, e2, e3, e4, e5, -⟩ := HR.out wr hwr j hlt
          have hji : (j : Int) < nr := by omega
          have hjl : j < rs.length := by rw [← HN.out.2.1]; exact hlt
          obtain ⟨xa, xc, rfl⟩ := isInts_form e5
          obtain ⟨D, hD⟩ : ∃ D, D = ((rs.getD j default).kind == kBase) := ⟨_, rfl⟩
          obtain ⟨kd, hkd⟩ : ∃ kd, kd = S (rs.getD j default).kind := ⟨_, rfl⟩
          have hd : (kd.toList == [98, 97, 115, 101]) = D := by rw [hkd, S_toList, hD]; rfl
          obtain ⟨xn, hxn⟩ : ∃ z, z = (rs.getD j default).args.length := ⟨_, rfl⟩
          rw [← hkd] at e0
          rw [← hxn] at e4
          have hts : rs.take (j + 1) = rs.take j ++ [rs.getD j default] := take_snoc rs default j hjl
          clear hkd hxn e5
          cases D with
          | false =>
            have HNX : Hid (gotK hs (rs.take (j + 1)) [] = gotK hs (rs.take j) []) := by
              show _ = _
              rw [hts]
              exact gotK_skip _ _ _ (fun q => by rw [q] at hD; cases hD)
            have HRw : Hid (Rows2 wr w.heap.size g (gotK hs (rs.take j) []) us ∧ Below w.heap.size w wr) := ⟨hRw, hwr⟩
            clear hD hts hRw hwr hjl
            go_wp2_with fail
            go_roundw
            case rel =>
              refine ⟨j + 1, us, hlt, by go_num, ?_, ?_⟩
              · rw [HNX.out]; exact HRw.out.1.below (below1 _ _)
              · exact HRw.out.2.alloc HRw.out.2.size _
            case measure => simp [intOf]; omega
          | true =>
            have hkb : (rs.getD j default).kind = kBase := by simpa using hD.symm
            obtain ⟨ha0, ha1⟩ := HRE.out.1 j hlt hkb
            obtain ⟨ka, hka⟩ : ∃ ka : Nat, (rs.getD j default).a = (ka : Int) := ⟨(rs.getD j default).a.toNat, by omega⟩
            rw [hka] at ha0 ha1 e1
            rw [Int.toNat_natCast] at ha1
            have hkai : (ka : Int) < k := by omega
            obtain ⟨x2, hx2⟩ : ∃ z, z = (rs.getD j default).b := ⟨_, rfl⟩
            obtain ⟨x3, hx3⟩ : ∃ z, z = (rs.getD j default).stmt := ⟨_, rfl⟩
            rw [← hx2] at e2
            rw [← hx3] at e3
            have hgl : ka < (gotK hs (rs.take j) []).length := by rw [gotK_len, ← HN.out.1]; exact ha1
            have HNX : Hid ((gotK hs (rs.take j) []).set ka ((gotK hs (rs.take j) []).getD ka [] ++ [x2]) = gotK hs (rs.take (j + 1)) []) := by
              show _ = _
              rw [hts, hx2]
              exact gotK_base hs _ _ hkb ka hka (by rw [← HN.out.1]; exact ha1)
            obtain ⟨W4, hW4⟩ : ∃ W4, W4 = wr.alloc (ruleBox kd ka x2 x3 (.slice xa xn xc)) := ⟨_, rfl⟩
            have hB4 : Below wr.heap.size wr W4 := by rw [hW4]; exact below1 wr _
            have hbx : W4.heap[wr.heap.size]? = some (ruleBox kd ka x2 x3 (.slice xa xn xc)) := by rw [hW4]; exact heap_new wr _
            have hR4 := hRw.below hB4
            have c4 := hR4.cell ka hgl
            obtain ⟨ua, uc, hu⟩ := hR4.form ka hgl
            rw [hu] at c4
            obtain ⟨un, hun⟩ : ∃ z, z = ((gotK hs (rs.take j) []).getD ka []).length := ⟨_, rfl⟩
            rw [← hun] at hu c4
            obtain ⟨bx, hbxe⟩ : ∃ b, b = wr.heap.size := ⟨_, rfl⟩
            have HNE : Hid (g ≠ bx ∧ (Value.slice ua un uc).ownBlock ≠ some bx) := by
              have h1 := hRw.lt
              refine ⟨by omega, fun q => ?_⟩
              have := (ownBlock_lt (hRw.own ka hgl) (by rw [hu]; exact q)).1
              omega
            have HW4 : Hid (∀ wx, Below W4.heap.size W4 wx → Rows2 wx w.heap.size g (gotK hs (rs.take j) []) us ∧ Below w.heap.size w wx) := fun wx hb => ⟨hR4.below hb, (hwr.trans (hB4.mono hwr.size)).trans (hb.mono (by have := hwr.size; have := hB4.size; omega))⟩
            have HK : Hid (ka < (gotK hs (rs.take j) []).length ∧ us.getD ka .nilIface = .slice ua un uc ∧ ((gotK hs (rs.take j) []).getD ka []).length + [x2].length ≤ 1000000000000) := ⟨hgl, hu, by have := HGL.out j 0 ka ha1; rw [List.take_zero] at this; show _ + 1 ≤ _; omega⟩
            rw [← hbxe] at hbx
            have hnew := World.new_ne W4 ⟨g, ka, none⟩ c4
            obtain ⟨-, q1, q2⟩ := keepRule hbx
            clear hD hts hRw hwr hjl hkb hka hx2 hx3 hR4 hu hun hB4 hgl
            go_upto_region 11 with fail
            rw [← hbxe]
            rw [← hW4]
            clear hW4 hbxe e0 e1 e2 e3 e4
            have c4a : (W4.alloc (.cells #[.int .i64 x2] 3)).cell? ⟨g, ka, none⟩ = some (.slice ua un uc) := cell_keep (below1 _ _) c4
            refine wp_region_noPanic ?_
            refine wp_region_held_drew (S := fun wx => wx.heap[bx]? = some (ruleBox kd ka x2 x3 (.slice xa xn xc)) ∧ wx.cell? ⟨bx, 1, none⟩ = some (.int .i64 (ka : Int)) ∧ wx.cell? ⟨bx, 2, none⟩ = some (.int .i64 x2)) (by kernel_rfl) (keepRule hbx) (fun hHeld => ?_)
            refine wpAnyH_take (i := 0) (oi := _) (v := .slice (some ⟨g, 0, none⟩) k k) rfl (by kernel_rfl) (by kernel_rfl) (by kernel_rfl) (fun _ _ _ h => h) (Or.inl ⟨by rfl, ?_⟩) hHeld ?_
            · (intro w hSw; obtain ⟨hSw0, hSw1, hSw2⟩ := hSw; go_simp)
            try simp only [Act.put, List.setIfInBounds_toArray]
            refine wpAnyH_take (i := 1) (oi := _) (v := .pointer (some ⟨bx, 1, none⟩)) rfl (by kernel_rfl) (by kernel_rfl) (by kernel_rfl) (fun _ _ _ h => h) (Or.inl ⟨by rfl, ?_⟩) hHeld ?_
            · (intro w hSw; obtain ⟨hSw0, hSw1, hSw2⟩ := hSw; go_simp)
            try simp only [Act.put]
            refine wpAnyH_take (i := 2) (oi := _) (v := .int .i64 (ka : Int)) rfl (by kernel_rfl) (by kernel_rfl) (by kernel_rfl) (fun _ _ _ h => h) (Or.inl ⟨by rfl, ?_⟩) hHeld ?_
            · (intro w hSw; obtain ⟨hSw0, hSw1, hSw2⟩ := hSw; go_simp)
            try simp only [Act.put]
            refine wpAnyH_take (i := 3) (oi := _) (v := .slice (some ⟨g, 0, none⟩) k k) rfl (by kernel_rfl) (by kernel_rfl) (by kernel_rfl) (fun _ _ _ h => h) (Or.inl ⟨by rfl, ?_⟩) hHeld ?_
            · (intro w hSw; obtain ⟨hSw0, hSw1, hSw2⟩ := hSw; go_simp)
            try simp only [Act.put]
            refine wpAnyH_take (i := 4) (oi := _) (v := .pointer (some ⟨bx, 1, none⟩)) rfl (by kernel_rfl) (by kernel_rfl) (by kernel_rfl) (fun _ _ _ h => h) (Or.inl ⟨by rfl, ?_⟩) hHeld ?_
            · (intro w hSw; obtain ⟨hSw0, hSw1, hSw2⟩ := hSw; go_simp)
            try simp only [Act.put]
            refine wpAnyH_take (i := 5) (oi := _) (v := .int .i64 (ka : Int)) rfl (by kernel_rfl) (by kernel_rfl) (by kernel_rfl) (fun _ _ _ h => h) (Or.inl ⟨by rfl, ?_⟩) hHeld ?_
            · (intro w hSw; obtain ⟨hSw0, hSw1, hSw2⟩ := hSw; go_simp)
            try simp only [Act.put]
            refine wpAnyH_take (i := 6) (oi := _) (v := .pointer (some ⟨g, ka, none⟩)) rfl (by kernel_rfl) (by kernel_rfl) (by kernel_rfl) (fun _ _ _ h => h) (Or.inl ⟨by rfl, ?_⟩) hHeld ?_
            · (intro w hSw; obtain ⟨hSw0, hSw1, hSw2⟩ := hSw; go_simp)
            try simp only [Act.put]
            refine wpAnyH_take (i := 8) (oi := _) (v := .pointer (some ⟨bx, 2, none⟩)) rfl (by kernel_rfl) (by kernel_rfl) (by kernel_rfl) (fun _ _ _ h => h) (Or.inl ⟨by rfl, ?_⟩) hHeld ?_
            · (intro w hSw; obtain ⟨hSw0, hSw1, hSw2⟩ := hSw; go_simp)
            try simp only [Act.put]
            refine wpAnyH_take (i := 9) (oi := _) (v := .int .i64 x2) rfl (by kernel_rfl) (by kernel_rfl) (by kernel_rfl) (fun _ _ _ h => h) (Or.inl ⟨by rfl, ?_⟩) hHeld ?_
            · (intro w hSw; obtain ⟨hSw0, hSw1, hSw2⟩ := hSw; go_simp)
            try simp only [Act.put]
            refine wpAnyH_ready (rs := [7, 10]) (by kernel_rfl) (by simp) ?_
            refine AllReadyH.cons (o := _) rfl (fun K hK => ?_) (AllReadyH.cons (o := _) rfl (fun K hK => ?_) AllReadyH.nil)
            · go_simp
              refine hK.out _ _ (keepRule (by repeat (with_reducible first | exact hbx | refine block_drew ?_ | refine block_al ?_ _ | refine block_st ?_ HNE.out.1 | refine block_but ?_ hkp HNE.out.2))) (fun hHeld => ?_)
              clear hK K
              try simp only [Act.put, List.setIfInBounds_toArray, List.set_cons_zero, List.set_cons_succ]
              refine wpAnyH_ready (rs := [10]) (by kernel_rfl) (by simp) ?_
              refine AllReadyH.cons (o := _) rfl (fun K hK => ?_) AllReadyH.nil
              go_simp
              refine hK.out _ _ (keepRule (by repeat (with_reducible first | exact hbx | refine block_drew ?_ | refine block_al ?_ _ | refine block_st ?_ HNE.out.1 | refine block_but ?_ hkp HNE.out.2))) (fun hHeld => ?_)
              clear hK K
              try simp only [Act.put, List.setIfInBounds_toArray, List.set_cons_zero, List.set_cons_succ]
              refine wpAnyH_ready (rs := [11]) (by kernel_rfl) (by simp) ?_
              refine AllReadyH.cons (o := _) rfl (fun K hK => ?_) AllReadyH.nil
              refine step_more (by rfl) _ _ (by rfl) ka ua un uc _ [x2] (by rfl) (by rfl) (HW4.out _ (by repeat (with_reducible first | exact Below.refl _ _ | refine Below.drew ?_ | refine below_alC ?_ _))).1 (HW4.out _ (by repeat (with_reducible first | exact Below.refl _ _ | refine Below.drew ?_ | refine below_alC ?_ _))).2 HK.out.1 HK.out.2.1 (by exact isInts_of_cells rfl (fun j hj => by obtain rfl : j = 0 := (by simpa using hj); simp)) HK.out.2.2 ?_
              intro va vn vc w5 hNX hkp hbw hc5 hf5
              refine hK.out _ _ (keepRule (by repeat (with_reducible first | exact hbx | refine block_drew ?_ | refine block_al ?_ _ | refine block_st ?_ HNE.out.1 | refine block_but ?_ hkp HNE.out.2))) (fun hHeld => ?_)
              clear hK K
              try simp only [Act.put, List.setIfInBounds_toArray]
              refine wpAnyH_take (i := 12) (oi := _) (v := .pointer (some ⟨g, ka, none⟩)) rfl (by kernel_rfl) (by kernel_rfl) (by kernel_rfl) (fun _ _ _ h => h) (Or.inl ⟨by rfl, ?_⟩) hHeld ?_
              · (intro w hSw; obtain ⟨hSw0, hSw1, hSw2⟩ := hSw; go_simp)
              try simp only [Act.put]
              refine wpAnyH_ready (rs := [13]) (by kernel_rfl) (by simp) ?_
              refine AllReadyH.cons (o := _) rfl (fun K hK => ?_) AllReadyH.nil
              go_simp
              refine hK.out _ _ (keepRule (by repeat (with_reducible first | exact hbx | refine block_drew ?_ | refine block_al ?_ _ | refine block_st ?_ HNE.out.1 | refine block_but ?_ hkp HNE.out.2))) (fun hHeld => ?_)
              clear hK K
              try simp only [Act.put, List.setIfInBounds_toArray, List.set_cons_zero, List.set_cons_succ]
              refine wpAnyH_done (by kernel_rfl) ?_ _
              refine NoPanic.normal ?_
              go_wp2_with fail
              go_roundw
              case rel => exact ⟨j + 1, _, hlt, by go_num, by rw [← HNX.out]; exact hNX.out.1, hNX.out.2⟩
              case measure => simp [intOf]; omega
            · go_simp
              refine hK.out _ _ (keepRule (by repeat (with_reducible first | exact hbx | refine block_drew ?_ | refine block_al ?_ _ | refine block_st ?_ HNE.out.1 | refine block_but ?_ hkp HNE.out.2))) (fun hHeld => ?_)
              clear hK K
              try simp only [Act.put, List.setIfInBounds_toArray, List.set_cons_zero, List.set_cons_succ]
              refine wpAnyH_ready (rs := [7]) (by kernel_rfl) (by simp) ?_
              refine AllReadyH.cons (o := _) rfl (fun K hK => ?_) AllReadyH.nil
              go_simp
              refine hK.out _ _ (keepRule (by repeat (with_reducible first | exact hbx | refine block_drew ?_ | refine block_al ?_ _ | refine block_st ?_ HNE.out.1 | refine block_but ?_ hkp HNE.out.2))) (fun hHeld => ?_)
              clear hK K
              try simp only [Act.put, List.setIfInBounds_toArray, List.set_cons_zero, List.set_cons_succ]
              refine wpAnyH_ready (rs := [11]) (by kernel_rfl) (by simp) ?_
              refine AllReadyH.cons (o := _) rfl (fun K hK => ?_) AllReadyH.nil
              refine step_more (by rfl) _ _ (by rfl) ka ua un uc _ [x2] (by rfl) (by rfl) (HW4.out _ (by repeat (with_reducible first | exact Below.refl _ _ | refine Below.drew ?_ | refine below_alC ?_ _))).1 (HW4.out _ (by repeat (with_reducible first | exact Below.refl _ _ | refine Below.drew ?_ | refine below_alC ?_ _))).2 HK.out.1 HK.out.2.1 (by exact isInts_of_cells rfl (fun j hj => by obtain rfl : j = 0 := (by simpa using hj); simp)) HK.out.2.2 ?_
              intro va vn vc w5 hNX hkp hbw hc5 hf5
              refine hK.out _ _ (keepRule (by repeat (with_reducible first | exact hbx | refine block_drew ?_ | refine block_al ?_ _ | refine block_st ?_ HNE.out.1 | refine block_but ?_ hkp HNE.out.2))) (fun hHeld => ?_)
              clear hK K
              try simp only [Act.put, List.setIfInBounds_toArray]
              refine wpAnyH_take (i := 12) (oi := _) (v := .pointer (some ⟨g, ka, none⟩)) rfl (by kernel_rfl) (by kernel_rfl) (by kernel_rfl) (fun _ _ _ h => h) (Or.inl ⟨by rfl, ?_⟩) hHeld ?_
              · (intro w hSw; obtain ⟨hSw0, hSw1, hSw2⟩ := hSw; go_simp)
              try simp only [Act.put]
              refine wpAnyH_ready (rs := [13]) (by kernel_rfl) (by simp) ?_
              refine AllReadyH.cons (o := _) rfl (fun K hK => ?_) AllReadyH.nil
              go_simp
              refine hK.out _ _ (keepRule (by repeat (with_reducible first | exact hbx | refine block_drew ?_ | refine block_al ?_ _ | refine block_st ?_ HNE.out.1 | refine block_but ?_ hkp HNE.out.2))) (fun hHeld => ?_)
              clear hK K
              try simp only [Act.put, List.setIfInBounds_toArray, List.set_cons_zero, List.set_cons_succ]
              refine wpAnyH_done (by kernel_rfl) ?_ _
              refine NoPanic.normal ?_
              go_wp2_with fail
              go_roundw
              case rel => exact ⟨j + 1, _, hlt, by go_num, by rw [← HNX.out]; exact hNX.out.1, hNX.out.2⟩
              case measure => simp [intOf]; omega
        · have hjn : j = nr := by omega
          subst hjn
          rw [List.take_of_length_le (by rw [← HN.out.2.1]; exact Nat.le_refl _)] at hRw
          obtain ⟨w2, hw2⟩ : ∃ w2, w2 = wr := ⟨_, rfl⟩
          rw [← hw2] at hRw hwr ⊢
          have HR2 : Hid (Rows2 w2 w.heap.size g (gotK hs rs (es.take 0)) us ∧ Below w.heap.size w w2) := ⟨by rw [List.take_zero]; exact hRw, hwr⟩
          clear hw2 hRw hwr hlt hj
          go_upto_region 14 with fail
          go_loopw [55] (fun t wr => ∃ (i : Nat) (us : List Value), i ≤ ne ∧ t = .int .i64 i ∧ Rows2 wr w.heap.size g (gotK hs rs (es.take i)) us ∧ Below w.heap.size w wr) (fun t _ => (ne - intOf t).toNat)
          case atStart => exact ⟨0, _, Nat.zero_le _, rfl, HR2.out.1, HR2.out.2⟩
          case round =>
            clear HR2 us
            obtain ⟨i, us, hi, rfl, hRw, hwr⟩ := hrel
            by_cases hlt : i < ne
            · obtain ⟨b, rfl, e0, e1⟩ := HE.out wr hwr i hlt
              have hii : (i : Int) < ne := by omega
              have hil : i < es.length := by rw [← HN.out.2.2]; exact hlt
              obtain ⟨⟨hf0, hf1⟩, ht0, ht1⟩ := HRE.out.2 i hlt
              obtain ⟨kf, hkf⟩ : ∃ kf : Nat, (es.getD i default).1 = (kf : Int) := ⟨(es.getD i default).1.toNat, by omega⟩
              obtain ⟨kt, hkt⟩ : ∃ kt : Nat, (es.getD i default).2 = (kt : Int) := ⟨(es.getD i default).2.toNat, by omega⟩
              rw [hkf] at hf0 hf1 e0
              rw [hkt] at ht0 ht1 e1
              rw [Int.toNat_natCast] at hf1 ht1
              have hfi : (kf : Int) < k := by omega
              have hti : (kt : Int) < k := by omega
              have hts : es.take (i + 1) = es.take i ++ [es.getD i default] := take_snoc es default i hil
              obtain ⟨hb0, ho0, x0, hva, hc0, hi0⟩ := HS.out w (Below.refl _ _) kf hf1
              subst hva
              have hgl : kt < (gotK hs rs (es.take i)).length := by rw [gotK_len, ← HN.out.1]; exact ht1
              have HNX : Hid ((gotK hs rs (es.take i)).set kt ((gotK hs rs (es.take i)).getD kt [] ++ hs.getD kf []) = gotK hs rs (es.take (i + 1))) := by
                show _ = _
                rw [hts]
                have := gotK_edge hs rs (es.take i) (es.getD i default) kt hkt (by rw [← HN.out.1]; exact ht1)
                unfold setAt at this
                rw [hkf, Int.toNat_natCast] at this
                exact this
              obtain ⟨W4, hW4⟩ : ∃ W4, W4 = wr.alloc (.cells #[.int .i64 (kf : Int), .int .i64 (kt : Int)] TE) := ⟨_, rfl⟩
              have hB4 : Below wr.heap.size wr W4 := by rw [hW4]; exact below1 wr _
              have hbx : W4.heap[wr.heap.size]? = some (.cells #[.int .i64 (kf : Int), .int .i64 (kt : Int)] TE (0, 0)) := by rw [hW4]; exact heap_new wr _
              have hR4 := hRw.below hB4
              have c4 := hR4.cell kt hgl
              obtain ⟨ua, uc, hu⟩ := hR4.form kt hgl
              rw [hu] at c4
              obtain ⟨un, hun⟩ : ∃ z, z = ((gotK hs rs (es.take i)).getD kt []).length := ⟨_, rfl⟩
              rw [← hun] at hu c4
              obtain ⟨xa, xc, rfl⟩ := isInts_form hi0
              obtain ⟨xn, hxn⟩ : ∃ z, z = (hs.getD kf []).length := ⟨_, rfl⟩
              rw [← hxn] at hc0
              have HI0 : Hid (IsInts w (.slice xa xn xc) (hs.getD kf [])) := by show IsInts _ _ _; rw [hxn]; exact hi0
              obtain ⟨bx, hbxe⟩ : ∃ b, b = wr.heap.size := ⟨_, rfl⟩
              have HNE : Hid (g ≠ bx ∧ (Value.slice ua un uc).ownBlock ≠ some bx ∧ w.heap.size ≤ g) := by
                have h1 := hRw.lt
                refine ⟨by omega, fun q => ?_, hRw.low⟩
                have := (ownBlock_lt (hRw.own kt hgl) (by rw [hu]; exact q)).1
                omega
              have hB4w : Below w.heap.size w W4 := hwr.trans (hB4.mono hwr.size)
              have HW4 : Hid (∀ wx, Below W4.heap.size W4 wx → Rows2 wx w.heap.size g (gotK hs rs (es.take i)) us ∧ Below w.heap.size w wx ∧ IsInts wx (.slice xa xn xc) (hs.getD kf [])) := fun wx hb => by
                have := hB4w.trans (hb.mono hB4w.size)
                exact ⟨hR4.below hb, this, HI0.out.below this⟩
              have HK : Hid (kt < (gotK hs rs (es.take i)).length ∧ us.getD kt .nilIface = .slice ua un uc ∧ ((gotK hs rs (es.take i)).getD kt []).length + (hs.getD kf []).length ≤ 1000000000000) := ⟨hgl, hu, by
                have h1 := HGL.out j i kt ht1
                rw [List.take_of_length_le (by rw [← HN.out.2.1]; exact Nat.le_refl _)] at h1
                have h2 := HL.out.1 kf hf1
                omega⟩
              have HC0 : Hid (w.cell? ⟨hb0, ho0 + kf, none⟩ = some (.slice xa xn xc)) := hc0
              rw [← hbxe] at hbx
              have hnew := World.new_ne W4 ⟨g, kt, none⟩ c4
              obtain ⟨-, -, q1, q2, q3⟩ := keepEdge hB4w hbx hc0
              clear hts hRw hwr hil hkf hkt hR4 hu hun hB4 hgl hi0 hxn hc0
              go_upto_region 16 with fail
              rw [← hbxe]
              rw [← hW4]
              clear hW4 hbxe e0 e1
              refine wp_region_noPanic ?_
              refine wp_region_held_drew (S := fun wx => Below w.heap.size w wx ∧ wx.heap[bx]? = some (.cells #[.int .i64 (kf : Int), .int .i64 (kt : Int)] TE (0, 0)) ∧ wx.cell? ⟨bx, 0, none⟩ = some (.int .i64 (kf : Int)) ∧ wx.cell? ⟨bx, 1, none⟩ = some (.int .i64 (kt : Int)) ∧ wx.cell? ⟨hb0, ho0 + kf, none⟩ = some (.slice xa xn xc)) (by kernel_rfl) (keepEdge hB4w.drew hbx HC0.out) (fun hHeld => ?_)
              refine wpAnyH_take (i := 0) (oi := _) (v := .slice (some ⟨g, 0, none⟩) k k) rfl (by kernel_rfl) (by kernel_rfl) (by kernel_rfl) (fun _ _ _ h => h) (Or.inl ⟨by rfl, ?_⟩) hHeld ?_
              · (intro w hSw; obtain ⟨hSw0, hSw1, hSw2, hSw3, hSw4⟩ := hSw; go_simp)
              try simp only [Act.put, List.setIfInBounds_toArray]
              refine wpAnyH_take (i := 1) (oi := _) (v := .pointer (some ⟨bx, 1, none⟩)) rfl (by kernel_rfl) (by kernel_rfl) (by kernel_rfl) (fun _ _ _ h => h) (Or.inl ⟨by rfl, ?_⟩) hHeld ?_
              · (intro w hSw; obtain ⟨hSw0, hSw1, hSw2, hSw3, hSw4⟩ := hSw; go_simp)
              try simp only [Act.put]
              refine wpAnyH_take (i := 2) (oi := _) (v := .int .i64 (kt : Int)) rfl (by kernel_rfl) (by kernel_rfl) (by kernel_rfl) (fun _ _ _ h => h) (Or.inl ⟨by rfl, ?_⟩) hHeld ?_
              · (intro w hSw; obtain ⟨hSw0, hSw1, hSw2, hSw3, hSw4⟩ := hSw; go_simp)
              try simp only [Act.put]
              refine wpAnyH_take (i := 3) (oi := _) (v := .slice (some ⟨g, 0, none⟩) k k) rfl (by kernel_rfl) (by kernel_rfl) (by kernel_rfl) (fun _ _ _ h => h) (Or.inl ⟨by rfl, ?_⟩) hHeld ?_
              · (intro w hSw; obtain ⟨hSw0, hSw1, hSw2, hSw3, hSw4⟩ := hSw; go_simp)
              try simp only [Act.put]
              refine wpAnyH_take (i := 4) (oi := _) (v := .pointer (some ⟨bx, 1, none⟩)) rfl (by kernel_rfl) (by kernel_rfl) (by kernel_rfl) (fun _ _ _ h => h) (Or.inl ⟨by rfl, ?_⟩) hHeld ?_
              · (intro w hSw; obtain ⟨hSw0, hSw1, hSw2, hSw3, hSw4⟩ := hSw; go_simp)
              try simp only [Act.put]
              refine wpAnyH_take (i := 5) (oi := _) (v := .int .i64 (kt : Int)) rfl (by kernel_rfl) (by kernel_rfl) (by kernel_rfl) (fun _ _ _ h => h) (Or.inl ⟨by rfl, ?_⟩) hHeld ?_
              · (intro w hSw; obtain ⟨hSw0, hSw1, hSw2, hSw3, hSw4⟩ := hSw; go_simp)
              try simp only [Act.put]
              refine wpAnyH_take (i := 6) (oi := _) (v := .pointer (some ⟨g, kt, none⟩)) rfl (by kernel_rfl) (by kernel_rfl) (by kernel_rfl) (fun _ _ _ h => h) (Or.inl ⟨by rfl, ?_⟩) hHeld ?_
              · (intro w hSw; obtain ⟨hSw0, hSw1, hSw2, hSw3, hSw4⟩ := hSw; go_simp)
              try simp only [Act.put]
              refine wpAnyH_take (i := 8) (oi := _) (v := .slice (some ⟨hb0, ho0, none⟩) k vc) rfl (by kernel_rfl) (by kernel_rfl) (by kernel_rfl) (fun _ _ _ h => h) (Or.inl ⟨by rfl, ?_⟩) hHeld ?_
              · (intro w hSw; obtain ⟨hSw0, hSw1, hSw2, hSw3, hSw4⟩ := hSw; go_simp)
              try simp only [Act.put]
              refine wpAnyH_take (i := 9) (oi := _) (v := .pointer (some ⟨bx, 0, none⟩)) rfl (by kernel_rfl) (by kernel_rfl) (by kernel_rfl) (fun _ _ _ h => h) (Or.inl ⟨by rfl, ?_⟩) hHeld ?_
              · (intro w hSw; obtain ⟨hSw0, hSw1, hSw2, hSw3, hSw4⟩ := hSw; go_simp)
              try simp only [Act.put]
              refine wpAnyH_take (i := 10) (oi := _) (v := .int .i64 (kf : Int)) rfl (by kernel_rfl) (by kernel_rfl) (by kernel_rfl) (fun _ _ _ h => h) (Or.inl ⟨by rfl, ?_⟩) hHeld ?_
              · (intro w hSw; obtain ⟨hSw0, hSw1, hSw2, hSw3, hSw4⟩ := hSw; go_simp)
              try simp only [Act.put]
              refine wpAnyH_take (i := 11) (oi := _) (v := .pointer (some ⟨hb0, ho0 + kf, none⟩)) rfl (by kernel_rfl) (by kernel_rfl) (by kernel_rfl) (fun _ _ _ h => h) (Or.inl ⟨by rfl, ?_⟩) hHeld ?_
              · (intro w hSw; obtain ⟨hSw0, hSw1, hSw2, hSw3, hSw4⟩ := hSw; go_simp)
              try simp only [Act.put]
              refine wpAnyH_take (i := 12) (oi := _) (v := .slice xa xn xc) rfl (by kernel_rfl) (by kernel_rfl) (by kernel_rfl) (fun _ _ _ h => h) (Or.inl ⟨by rfl, ?_⟩) hHeld ?_
              · (intro w hSw; obtain ⟨hSw0, hSw1, hSw2, hSw3, hSw4⟩ := hSw; go_simp)
              try simp only [Act.put]
              refine wpAnyH_ready (rs := [7]) (by kernel_rfl) (by simp) ?_
              refine AllReadyH.cons (o := _) rfl (fun K hK => ?_) AllReadyH.nil
              go_simp
              refine hK.out _ _ (keepEdge (by repeat (with_reducible first | assumption | exact hB4w | refine Below.drew ?_ | refine Below.setCell ?_ HNE.out.2.2 _)) (by repeat (with_reducible first | exact hbx | refine block_drew ?_ | refine block_st ?_ HNE.out.1 | refine block_but ?_ hkp HNE.out.2.1)) HC0.out) (fun hHeld => ?_)
              clear hK K
              try simp only [Act.put, List.setIfInBounds_toArray, List.set_cons_zero, List.set_cons_succ]
              refine wpAnyH_ready (rs := [13]) (by kernel_rfl) (by simp) ?_
              refine AllReadyH.cons (o := _) rfl (fun K hK => ?_) AllReadyH.nil
              refine step_more (by rfl) _ _ (by rfl) kt ua un uc _ (hs.getD kf []) (by rfl) (by rfl) (HW4.out _ (by repeat (with_reducible first | exact Below.refl _ _ | refine Below.drew ?_ | refine below_alC ?_ _))).1 (HW4.out _ (by repeat (with_reducible first | exact Below.refl _ _ | refine Below.drew ?_ | refine below_alC ?_ _))).2.1 HK.out.1 HK.out.2.1 (HW4.out _ (by repeat (with_reducible first | exact Below.refl _ _ | refine Below.drew ?_ | refine below_alC ?_ _))).2.2 HK.out.2.2 ?_
              intro va vn vc w5 hNX hkp hbw hc5 hf5
              refine hK.out _ _ (keepEdge (by repeat (with_reducible first | assumption | exact hB4w | refine Below.drew ?_ | refine Below.setCell ?_ HNE.out.2.2 _)) (by repeat (with_reducible first | exact hbx | refine block_drew ?_ | refine block_st ?_ HNE.out.1 | refine block_but ?_ hkp HNE.out.2.1)) HC0.out) (fun hHeld => ?_)
              clear hK K
              try simp only [Act.put, List.setIfInBounds_toArray]
              refine wpAnyH_take (i := 14) (oi := _) (v := .pointer (some ⟨g, kt, none⟩)) rfl (by kernel_rfl) (by kernel_rfl) (by kernel_rfl) (fun _ _ _ h => h) (Or.inl ⟨by rfl, ?_⟩) hHeld ?_
              · (intro w hSw; obtain ⟨hSw0, hSw1, hSw2, hSw3, hSw4⟩ := hSw; go_simp)
              try simp only [Act.put]
              refine wpAnyH_ready (rs := [15]) (by kernel_rfl) (by simp) ?_
              refine AllReadyH.cons (o := _) rfl (fun K hK => ?_) AllReadyH.nil
              go_simp
              refine hK.out _ _ (keepEdge (by repeat (with_reducible first | assumption | exact hB4w | refine Below.drew ?_ | refine Below.setCell ?_ HNE.out.2.2 _)) (by repeat (with_reducible first | exact hbx | refine block_drew ?_ | refine block_st ?_ HNE.out.1 | refine block_but ?_ hkp HNE.out.2.1)) HC0.out) (fun hHeld => ?_)
              clear hK K
              try simp only [Act.put, List.setIfInBounds_toArray, List.set_cons_zero, List.set_cons_succ]
              refine wpAnyH_done (by kernel_rfl) ?_ _
              refine NoPanic.normal ?_
              go_wp2_with fail
              go_roundw
              case rel => exact ⟨i + 1, _, hlt, by go_num, by rw [← HNX.out]; exact hNX.out.1, hNX.out.2⟩
              case measure => simp [intOf]; omega
            · have hin : i = ne := by omega
              subst hin
              rw [List.take_of_length_le (by rw [← HN.out.2.2]; exact Nat.le_refl _)] at hRw
              have HF : Hid (Rows2 wr g g (gotK hs rs es) us ∧ Below g w wr) := by rw [← HG.out] at hRw hwr; exact ⟨hRw, hwr⟩
              clear hRw hwr
              go_wp2_with fail
              go_ret
              exact ⟨us, rfl, HF.out.1, HF.out.2⟩
end Go.Proofs.YtimmkenmahagjaaGreatDoor

/-
  Package fix, sets: by a contract.
-/
namespace Go.Proofs.YtimmkenmahagjaaGreatDoor
open Go.RowKit Go.Extern.Stop Go.Stop Go.Extern

theorem isInts_setN {w : World} {v : Value} {zs : List Int} (h : IsInts w v zs) {g i : Nat} {x : Value} (hne : zs = [] ∨ v.ownBlock ≠ some g) : IsInts (w.setCell ⟨g, i, none⟩ x) v zs := by
  rcases hne with e | e
  · rcases h with q | ⟨q, _⟩
    · exact Or.inl q
    · exact absurd e q
  · exact isInts_set h e
/-- The first k sets are laid. -/
structure SetI (w : World) (B g k : Nat) (zss : List (List Int)) (us : List Value) : Prop where
  low : B ≤ g
  lu : us.length = zss.length
  blk : w.heap[g]? = some (.cells us.toArray TSI (0, 0))
  at_ : ∀ j, j < k → IsInts w (us.getD j .nilIface) (zss.getD j []) ∧ (zss.getD j [] = [] ∨ (us.getD j .nilIface).ownBlock ≠ some g)
theorem SetI.below {w w' : World} {B g k : Nat} {zss : List (List Int)} {us : List Value} (h : SetI w B g k zss us) (hb : Below w.heap.size w w') : SetI w' B g k zss us :=
  ⟨h.low, h.lu, block_keep hb h.blk, fun j hj => ⟨(h.at_ j hj).1.below hb, (h.at_ j hj).2⟩⟩
theorem SetI.cell {w : World} {B g k : Nat} {zss : List (List Int)} {us : List Value} (h : SetI w B g k zss us) (j : Nat) (hj : j < zss.length) : w.cell? ⟨g, j, none⟩ = some (us.getD j .nilIface) := by
  rw [Lib.cell_of_heap h.blk]
  have : j < us.length := by rw [h.lu]; exact hj
  simp [List.getD, this]
theorem SetI.put {w : World} {B g k : Nat} {zss : List (List Int)} {us : List Value} (h : SetI w B g k zss us) (hk : k < zss.length) (v' : Value) (hv : IsInts w v' (zss.getD k [])) (hob : zss.getD k [] = [] ∨ v'.ownBlock ≠ some g) : SetI (w.setCell ⟨g, k, none⟩ v') B g (k + 1) zss (us.set k v') := by
  have hku : k < us.length := by rw [h.lu]; exact hk
  refine ⟨h.low, by rw [List.length_set]; exact h.lu, ?_, fun j hj => ?_⟩
  · rw [set_block _ _ _ _ _ _ h.blk]
    simp
  · by_cases e : j = k
    · subst e
      rw [show (us.set j v').getD j .nilIface = v' by simp [List.getD, hku]]
      exact ⟨isInts_setN hv hob, hob⟩
    · rw [getD_set_otherE _ _ _ _ _ (fun q => e q.symm)]
      obtain ⟨h1, h2⟩ := h.at_ j (by omega)
      exact ⟨isInts_setN h1 h2, h2⟩
theorem SetI.isSets {w : World} {B g : Nat} {zss : List (List Int)} {us : List Value} (h : SetI w B g zss.length zss us) (c : Nat) : IsSets w (.slice (some ⟨g, 0, none⟩) zss.length c) zss :=
  ⟨_, c, rfl, fun j hj => ⟨g, 0, us.getD j .nilIface, rfl, by rw [Nat.zero_add]; exact h.cell j hj, (h.at_ j hj).1⟩⟩

set_option maxRecDepth 100000 in
set_option maxHeartbeats 8000000 in
theorem sets_any (zss : List (List Int)) (v : Value) (w : World) (h : IsSets w v zss) (hn : zss.length ≤ 1000000) (hl : ∀ j, j < zss.length → (zss.getD j []).length ≤ 1000000) (hin : ∀ j, j < zss.length → InB (zss.getD j [])) :
    Calls Tryz.prog 64 #[v] w fun e w' => ∃ a c, e = .returned (.tuple #[.slice a zss.length c, .nilIface]) ∧ IsSets w' (.slice a zss.length c) (zss.map norm) ∧ Below w.heap.size w w' := by
  obtain ⟨va, vc, rfl, hrow⟩ := h
  obtain ⟨n, hnn⟩ : ∃ n, n = zss.length := ⟨_, rfl⟩
  have HN : Hid (n = zss.length) := hnn
  have HL : Hid (∀ j, j < n → (zss.getD j []).length ≤ 1000000 ∧ InB (zss.getD j [])) := fun j hj => ⟨hl j (by omega), hin j (by omega)⟩
  rw [← hnn] at hrow hn ⊢
  have HS : Hid (∀ wx, Below w.heap.size w wx → ∀ j, j < n → ∃ b o x, va = some ⟨b, o, none⟩ ∧ wx.cell? ⟨b, o + j, none⟩ = some x ∧ IsInts wx x (zss.getD j [])) := fun wx hb j hj => by
    obtain ⟨b, o, x, h1, h2, h3⟩ := hrow j hj
    exact ⟨b, o, x, h1, cell_keep hb h2, h3.below hb⟩
  obtain ⟨g, hg⟩ : ∃ g, g = w.heap.size := ⟨_, rfl⟩
  have HM := make_rows n (by omega) w
  have H0 : Hid (∀ wx, wx = w.alloc (.cells (Array.replicate n (Value.slice none 0 0)) TSI) → SetI wx w.heap.size g 0 (zss.map norm) (List.replicate n (.slice none 0 0)) ∧ Below w.heap.size w wx) := fun wx hwx => by
    rw [hwx, hg]
    exact ⟨⟨Nat.le_refl _, by simp [hnn], by rw [List.toArray_replicate]; exact heap_new w _, fun j hj => absurd hj (Nat.not_lt_zero _)⟩, below1 w _⟩
  have HNM : Hid (∀ j, j < n → (zss.map norm).getD j [] = norm (zss.getD j [])) := fun j hj => by
    have : j < zss.length := by omega
    simp [List.getD, this]
  rw [← hg] at HM ⊢
  have HG : Hid (g = w.heap.size) := hg
  clear hrow hl hin hnn hg
  go_enter Tryz.func64, Tryz.ntmps64
  go_upto_region 3 with fail
  obtain ⟨W1, hW1⟩ : ∃ W1, W1 = w.alloc (.cells (Array.replicate n (Value.slice none 0 0)) TSI) := ⟨_, rfl⟩
  rw [← hW1]
  have HR0 : Hid _ := H0.out W1 hW1
  clear H0 HM hW1
  go_loopw [14] (fun t wr => ∃ (k : Nat) (us : List Value), k ≤ n ∧ t = .int .i64 k ∧ SetI wr w.heap.size g k (zss.map norm) us ∧ Below w.heap.size w wr) (fun t _ => (n - intOf t).toNat)
  case atStart => exact ⟨0, _, Nat.zero_le _, rfl, HR0.out.1, HR0.out.2⟩
  case round =>
    clear HR0
    obtain ⟨k, us, hk, rfl, hRw, hwr⟩ := hrel
    by_cases hlt : k < n
    · obtain ⟨b, o, x, rfl, e0, hx⟩ := HS.out wr hwr k hlt
      have hki : (k : Int) < n := by omega
      have KC : Hid _ := of_own (zss.getD k []) x wr (HL.out k hlt).1 hx (HL.out k hlt).2
      obtain ⟨xa, xc, rfl⟩ := isInts_form hx
      obtain ⟨m, hm⟩ : ∃ m, m = (zss.getD k []).length := ⟨_, rfl⟩
      rw [← hm] at e0 KC
      have HRw : Hid (SetI wr w.heap.size g k (zss.map norm) us ∧ Below w.heap.size w wr) := ⟨hRw, hwr⟩
      clear hm hRw hx hwr
      go_wp2_with fail
      refine Calls.mono KC.out ?_
      rintro e w2 ⟨v', rfl, hi2, hb2, hob⟩
      obtain ⟨qa, qc, rfl⟩ := isInts_form hi2
      obtain ⟨m2, hm2⟩ : ∃ m, m = (norm (zss.getD k [])).length := ⟨_, rfl⟩
      rw [← hm2] at hi2 hob ⊢
      have hR2 := HRw.out.1.below hb2
      have hkl : k < (zss.map norm).length := by rw [List.length_map, ← HN.out]; exact hlt
      have c2 := hR2.cell k hkl
      have f2 : w2.frozen? ⟨g, k, none⟩ = false := Lib.frozen_of_heap hR2.blk k
      have hgs : g < wr.heap.size := (Array.getElem?_eq_some_iff.1 HRw.out.1.blk).1
      have HNX : Hid (SetI (w2.setCell ⟨g, k, none⟩ (.slice qa m2 qc)) w.heap.size g (k + 1) (zss.map norm) (us.set k (.slice qa m2 qc)) ∧ Below w.heap.size w (w2.setCell ⟨g, k, none⟩ (.slice qa m2 qc))) := by
        refine ⟨hR2.put hkl _ (by rw [HNM.out k hlt]; exact hi2) ?_, (HRw.out.2.trans (hb2.mono HRw.out.2.size)).setCell hR2.low _⟩
        rw [HNM.out k hlt]
        by_cases hz : zss.getD k [] = []
        · left; rw [hz, norm_nil]
        · right
          intro q
          have := hob hz g q
          omega
      obtain ⟨xo, hxo⟩ : ∃ z, z = us.getD k .nilIface := ⟨_, rfl⟩
      rw [← hxo] at c2
      clear KC hi2 hob hm2 hR2 hb2 hkl hgs hxo
      go_wp2_with fail
      go_roundw
      case rel => exact ⟨k + 1, _, hlt, by go_num, HNX.out⟩
      case measure => simp [intOf]; omega
    · have hkn : k = n := by omega
      subst hkn
      have HB : Hid (Below g w wr) := by show Below _ _ _; rw [HG.out]; exact hwr
      have HF : Hid (IsSets wr (.slice (some ⟨g, 0, none⟩) k k) (zss.map norm)) := by
        have e : k = (zss.map norm).length := by rw [List.length_map]; exact HN.out
        have := hRw
        rw [e] at this
        have := this.isSets k
        rw [← e] at this
        exact this
      clear hRw
      go_wp2_with fail
      go_ret2
      exact ⟨_, _, rfl, HF.out, HB.out⟩
end Go.Proofs.YtimmkenmahagjaaGreatDoor

/-
  Package fix, Round: by a contract.
-/
namespace Go.Proofs.YtimmkenmahagjaaGreatDoor
open Go.RowKit Go.Extern.Stop Go.Stop Go.Extern

/-- What Round tells. -/
def RoundPost (a : Nat → Addr) (P : ProgD) (hs : List (List Int)) (w w' : World) (e : Ending) : Prop :=
  ∃ va vn vc ev, e = .returned (.tuple #[.slice va vn vc, ev]) ∧ ((consE P hs = none ∧ ev = .nilIface ∧ IsSets w' (.slice va vn vc) (roundD P hs)) ∨ ((consE P hs).isNone = false ∧ Value.slice va vn vc = .slice none 0 0 ∧ ErrV w' a (consE P hs) ev)) ∧ Below w.heap.size w w'
/-- What a round gathers. -/
theorem got_ok {P : ProgD} {hs : List (List Int)} {es : List Pair} (hc : checkE P = none) (h : SetsOk P hs) (he : EdgeSet (foundD P hs) es) :
    (∀ r ∈ rulesD P, r.kind = kBase → 0 ≤ r.a ∧ r.a.toNat < hs.length) ∧ (∀ p ∈ es, (0 ≤ p.1 ∧ p.1.toNat < hs.length) ∧ (0 ≤ p.2 ∧ p.2.toNat < hs.length)) ∧ hs.length ≤ 1000 ∧ (∀ j, j < hs.length → (hs.getD j []).length ≤ 200) ∧ (rulesD P).length ≤ 1000 ∧ es.length ≤ 1000000 ∧
    (gotK hs (rulesD P) es).length = hs.length ∧ ∀ j, j < hs.length → ((gotK hs (rulesD P) es).getD j []).length ≤ 1000000 ∧ InB ((gotK hs (rulesD P) es).getD j []) := by
  obtain ⟨s1, s2, s3⟩ := right_small hc
  have hpl := places_le P P.stmts.length
  have hlen := h.len
  have hv : P.vars.length ≤ hs.length := by rw [h.len]; unfold places; omega
  have hnd : ∀ p ∈ es, (0 ≤ p.1 ∧ p.1 < (hs.length : Int)) ∧ (0 ≤ p.2 ∧ p.2 < (hs.length : Int)) := fun p hp => found_nodes hc h p ((he.mem p).1 hp).1
  have hsh := fun j hj => h.short hc j hj
  refine ⟨fun r hr _ => ?_, fun p hp => ?_, by omega, hsh, by rw [rulesD_len]; omega, ?_, gotK_len _ _ _, fun j hj => ?_⟩
  · have := (rule_names hc r hr).1
    omega
  · have := hnd p hp
    omega
  · exact Nat.le_trans (up_length he.up (fun p hp => ((he.mem p).1 hp).1)) (Nat.le_trans (foundD_len h hc) (by omega))
  · rw [gotK_at _ _ _ _ hj]
    constructor
    · have h1 := gotAt_len (rulesD P) es hsh j hj
      have h2 := into_len he.up (fun p hp => (hnd p hp).1) j
      rw [rulesD_len] at h1
      have h3 : (es.filter fun p => p.2 == (j : Int)).length * 200 ≤ 1000 * 200 := Nat.mul_le_mul (by omega) (Nat.le_refl _)
      omega
    · refine inB_iff.2 fun x hx => ?_
      have hr := (SetsOk.round hc h).set j (by rw [roundD_len]; exact hj)
      rw [← gather_round he, show ((gotK hs (rulesD P) es).map norm).getD j [] = norm ((gotK hs (rulesD P) es).getD j []) by simp [List.getD, gotK_len, hj], gotK_at _ _ _ _ hj] at hr
      exact inB_iff.1 hr.1 x ((norm_mem _ _).2 hx)

set_option maxRecDepth 100000 in
set_option maxHeartbeats 8000000 in
theorem round_any (a : Nat → Addr) (P : ProgD) (v1 v2 v3 hv : Value) (hs : List (List Int)) (w : World) (hS : SmallP P) (h : IsProg w v1 v2 v3 P) (hH : IsSets w hv hs) (hE : Errs5 w a) (h3 : Three w a) (hn : hs.length ≤ 1000000) (hl : ∀ j, j < hs.length → (hs.getD j []).length ≤ 1000000) :
    Calls Tryz.prog 29 #[.agg #[v1, v2, v3], hv] w fun e w' => RoundPost a P hs w w' e := by
  have H : Hid (IsProg w v1 v2 v3 P ∧ Errs5 w a ∧ SmallP P ∧ IsSets w hv hs) := ⟨h, hE, hS, hH⟩
  obtain ⟨⟨a1, c1, rfl, -, -⟩, ⟨a2, c2, rfl, -, -⟩, ⟨a3, c3, rfl, -, -⟩⟩ := h
  obtain ⟨ha, hc, rfl, -⟩ := hH
  obtain ⟨n1, hn1⟩ : ∃ m, m = P.vars.length := ⟨_, rfl⟩
  obtain ⟨n2, hn2⟩ : ∃ m, m = P.funs.length := ⟨_, rfl⟩
  obtain ⟨n3, hn3⟩ : ∃ m, m = P.stmts.length := ⟨_, rfl⟩
  obtain ⟨n, hnn⟩ : ∃ m, m = hs.length := ⟨_, rfl⟩
  rw [← hn1, ← hn2, ← hn3] at H ⊢
  rw [← hnn] at H ⊢
  have HN : Hid (n = hs.length) := hnn
  obtain ⟨W, hW⟩ : ∃ W, W = w.alloc (.cells #[.slice a1 n1 c1, .slice a2 n2 c2, .slice a3 n3 c3] 26) := ⟨_, rfl⟩
  have hBW : Below w.heap.size w W := by rw [hW]; exact below1 w _
  have HX : Hid (Box3 W w.heap.size (.slice a1 n1 c1) (.slice a2 n2 c2) (.slice a3 n3 c3)) := by show Box3 _ _ _ _ _; rw [hW]; exact box3_new w _ _ _ _
  have KC : Hid (Calls Tryz.prog 20 #[.agg #[.slice a1 n1 c1, .slice a2 n2 c2, .slice a3 n3 c3], .slice ha n hc] W fun e w' => EdgesPost a P hs W w' e) := edges_any a P _ _ _ _ hs W hS (H.out.1.below hBW) (H.out.2.2.2.below hBW) (hE.below hBW) (h3.below hBW) hn hl
  obtain ⟨p0, p1, p2⟩ := HX.out
  clear hn1 hn2 hn3 hE hS hnn hn hl h3
  go_enter Tryz.func29, Tryz.ntmps29
  go_upto_region 1 with fail
  rw [← hW]
  clear hW
  go_wp2_with fail
  refine KC.out.mono ?_
  rintro e w1 ⟨v, ev, rfl, hcase, hB1⟩
  clear KC
  have hB1w : Below w.heap.size w w1 := hBW.trans (hB1.mono hBW.size)
  replace p0 := cell_keep hB1 p0
  replace p1 := cell_keep hB1 p1
  replace p2 := cell_keep hB1 p2
  rcases hcase with ⟨hce, rfl, es, q1, q2⟩ | ⟨hce, rfl, hev⟩
  case inr =>
    have h8 : ∃ t x, ev = .iface t (.pointer (some x)) := by
      rcases hev.cases with ⟨q, _⟩ | ⟨_, q⟩
      · rw [q] at hce; cases hce
      · exact q
    obtain ⟨t8, x8, rfl⟩ := h8
    have HV : Hid ((consE P hs).isNone = false ∧ ErrV w1 a (consE P hs) (.iface t8 (.pointer (some x8)))) := ⟨hce, hev⟩
    clear hev hce
    go_wp2_with fail
    go_ret2
    exact ⟨_, _, _, _, rfl, Or.inr ⟨HV.out.1, rfl, HV.out.2⟩, hB1w⟩
  case inl =>
    obtain ⟨hck, hok⟩ := consE_ok hce
    have HCE : Hid (consE P hs = none ∧ checkE P = none ∧ SetsOk P hs ∧ EdgeSet (foundD P hs) es) := ⟨hce, hck, hok, q2⟩
    have HP : Hid (IsPairs w1 v es) := q1
    obtain ⟨ea, ec, rfl, -⟩ := q1
    obtain ⟨en, hen⟩ : ∃ z, z = es.length := ⟨_, rfl⟩
    rw [← hen] at HP ⊢
    have KR : Hid (Calls Tryz.prog 15 #[.agg #[.slice a1 n1 c1, .slice a2 n2 c2, .slice a3 n3 c3]] w1 fun e w' => ∃ ra rn rc, e = .returned (.tuple #[.slice ra rn rc, .nilIface]) ∧ IsRules w' (.slice ra rn rc) (rulesD P) ∧ Below w1.heap.size w1 w') := by
      refine (of_any a P _ _ _ w1 H.out.2.2.1 (H.out.1.below hB1w) (H.out.2.1.below hB1w)).mono ?_
      rintro e w' ⟨v, ev, rfl, hcs, hb⟩
      rcases hcs with ⟨-, rfl, hr⟩ | ⟨q, -, -⟩
      · have hr' := hr
        obtain ⟨ra, rc, rfl, -⟩ := hr
        exact ⟨ra, _, rc, rfl, hr', hb⟩
      · rw [HCE.out.2.1] at q; cases q
    clear hce hck hok q2 hen hB1
    go_wp2_with fail
    refine KR.out.mono ?_
    rintro e w2 ⟨ra, rn, rc, rfl, hr2, hB2⟩
    have HR2 : Hid (IsRules w2 (.slice ra rn rc) (rulesD P) ∧ IsPairs w2 (.slice ea en ec) es ∧ IsSets w2 (.slice ha n hc) hs) := ⟨hr2, HP.out.below hB2, H.out.2.2.2.below (hB1w.trans (hB2.mono hB1w.size))⟩
    have hB2w : Below w.heap.size w w2 := hB1w.trans (hB2.mono hB1w.size)
    have KG : Hid (∃ g, Calls Tryz.prog 65 #[.slice ha n hc, .slice ra rn rc, .slice ea en ec] w2 fun e w' => e = .returned (.slice (some ⟨g, 0, none⟩) n n) ∧ IsSets w' (.slice (some ⟨g, 0, none⟩) n n) (gotK hs (rulesD P) es) ∧ Below w2.heap.size w2 w') := by
      obtain ⟨g1, g2, g3, g4, g5, g6, g7, g8⟩ := got_ok HCE.out.2.1 HCE.out.2.2.1 HCE.out.2.2.2
      refine ⟨w2.heap.size, ?_⟩
      refine (gather_any hs (rulesD P) es _ _ _ w2 HR2.out.2.2 HR2.out.1 HR2.out.2.1 g1 g2 (by omega) (fun j hj => by have := g4 j hj; omega) (by omega) g6).mono ?_
      rintro e w' ⟨us, rfl, r1, r2⟩
      have := r1.isSets n
      rw [g7, ← HN.out] at this
      exact ⟨by rw [HN.out], this, r2⟩
    obtain ⟨g, hKG⟩ := KG.out
    have KG' : Hid _ := hKG
    have KS : Hid (∀ wx v, IsSets wx v (gotK hs (rulesD P) es) → Calls Tryz.prog 64 #[v] wx fun e w' => ∃ a c, e = .returned (.tuple #[.slice a n c, .nilIface]) ∧ IsSets w' (.slice a n c) (roundD P hs) ∧ Below wx.heap.size wx w') := fun wx v hv => by
      obtain ⟨g1, g2, g3, g4, g5, g6, g7, g8⟩ := got_ok HCE.out.2.1 HCE.out.2.2.1 HCE.out.2.2.2
      have := sets_any (gotK hs (rulesD P) es) v wx hv (by omega) (fun j hj => (g8 j (by omega)).1) (fun j hj => (g8 j (by omega)).2)
      rw [g7, ← HN.out, gather_round HCE.out.2.2.2] at this
      exact this
    clear hr2 hB2 KR hKG KG p0 p1 p2
    go_wp2_with fail
    refine Calls.mono KG'.out ?_
    rintro e w3 ⟨rfl, hi3, hB3⟩
    have hB3w : Below w.heap.size w w3 := hB2w.trans (hB3.mono hB2w.size)
    clear KG'
    go_wp2_with fail
    refine (KS.out w3 _ hi3).mono ?_
    rintro e w4 ⟨xa, xc, rfl, hi4, hB4⟩
    have HX4 : Hid (IsSets w4 (.slice xa n xc) (roundD P hs)) := hi4
    clear hi4 hi3
    go_wp2_with fail
    go_ret2
    exact ⟨_, _, _, _, rfl, Or.inl ⟨HCE.out.1, rfl, HX4.out⟩, hB3w.trans (hB4.mono hB3w.size)⟩
end Go.Proofs.YtimmkenmahagjaaGreatDoor

/-
  Package fix, Least: by a contract.
-/
namespace Go.Proofs.YtimmkenmahagjaaGreatDoor
open Go.RowKit Go.Extern.Stop Go.Stop Go.Extern

theorem equal_any (xs ys : List Int) (u v : Value) (w : World) (hx : xs.length ≤ 1000000) (hy : ys.length ≤ 1000000) (h1 : IsInts w u xs) (h2 : IsInts w v ys) :
    Calls Tryz.prog 63 #[u, v] w fun e w' => e = .returned (.bool (decide (xs = ys))) ∧ Below w.heap.size w w' := by
  rcases h1 with ⟨rfl, a, c, rfl⟩ | ⟨hz, b, o, c, rfl, hc⟩
  · obtain ⟨va, vc, rfl⟩ := isInts_form h2
    refine (Tryz.slices_Equal_int_empty a va c ys.length vc w (by omega)).mono ?_
    rintro e w' ⟨rfl, rfl⟩
    refine ⟨?_, Below.refl _ _⟩
    congr 2
    rw [decide_eq_decide]
    constructor
    · intro q; exact (List.eq_nil_of_length_eq_zero q).symm
    · intro q; rw [← q]; rfl
  · by_cases hlen : xs.length = ys.length
    · rcases h2 with ⟨rfl, a, c', rfl⟩ | ⟨hz', b', o', c', rfl, hc'⟩
      · exact absurd (List.eq_nil_of_length_eq_zero hlen) hz
      · refine (Tryz.slices_Equal_int b o xs.length c b' o' ys.length c' xs ys w (Nat.le_refl _) (Nat.le_refl _) (by omega) (by omega) hc hc').mono ?_
        rintro e w' ⟨rfl, q, rfl⟩
        refine ⟨?_, below_drewN (Below.refl _ _) q⟩
        rw [List.take_length, List.take_length]
        congr 2
        rw [Bool.eq_iff_iff, beq_iff_eq, decide_eq_true_iff]
    · obtain ⟨va, vc, rfl⟩ := isInts_form h2
      refine (Tryz.slices_Equal_int_lens _ va xs.length c ys.length vc w hlen).mono ?_
      rintro e w' ⟨rfl, rfl⟩
      refine ⟨?_, Below.refl _ _⟩
      congr 2
      exact (decide_eq_false (fun q => hlen (by rw [q]))).symm

theorem take_eq_succ {xs ys : List (List Int)} {k : Nat} (hx : k < xs.length) (hy : k < ys.length) (h : xs.take k = ys.take k) (h1 : xs.getD k [] = ys.getD k []) : xs.take (k + 1) = ys.take (k + 1) := by
  rw [take_snoc xs [] k hx, take_snoc ys [] k hy, h, h1]
set_option maxRecDepth 100000 in
set_option maxHeartbeats 8000000 in
theorem equalFunc_any (xs ys : List (List Int)) (u v : Value) (w : World) (h1 : IsSets w u xs) (h2 : IsSets w v ys) (hlen : xs.length = ys.length) (hn : xs.length ≤ 1000000) (hx : ∀ j, j < xs.length → (xs.getD j []).length ≤ 1000000) (hy : ∀ j, j < ys.length → (ys.getD j []).length ≤ 1000000) :
    Calls Tryz.prog 62 #[u, v, .func (Fn.func 63) #[] #[]] w fun e w' => e = .returned (.bool (decide (xs = ys))) ∧ Below w.heap.size w w' := by
  obtain ⟨ua, uc, rfl, hr1⟩ := h1
  obtain ⟨va, vc, rfl, hr2⟩ := h2
  rw [← hlen] at hr2 hy ⊢
  obtain ⟨n, hnn⟩ : ∃ n, n = xs.length := ⟨_, rfl⟩
  rw [← hnn] at hr1 hr2 hn hx hy ⊢
  have HN : Hid (n = xs.length ∧ n = ys.length) := ⟨hnn, by rw [hnn, hlen]⟩
  have HS : Hid (∀ wx, Below w.heap.size w wx → ∀ j, j < n → ∃ b o x b' o' x', ua = some ⟨b, o, none⟩ ∧ wx.cell? ⟨b, o + j, none⟩ = some x ∧ va = some ⟨b', o', none⟩ ∧ wx.cell? ⟨b', o' + j, none⟩ = some x' ∧ IsInts wx x (xs.getD j []) ∧ IsInts wx x' (ys.getD j [])) := fun wx hb j hj => by
    obtain ⟨b, o, x, q1, q2, q3⟩ := hr1 j hj
    obtain ⟨b', o', x', r1, r2, r3⟩ := hr2 j hj
    exact ⟨b, o, x, b', o', x', q1, cell_keep hb q2, r1, cell_keep hb r2, q3.below hb, r3.below hb⟩
  have HL : Hid (∀ j, j < n → (xs.getD j []).length ≤ 1000000 ∧ (ys.getD j []).length ≤ 1000000) := fun j hj => ⟨hx j hj, hy j hj⟩
  obtain ⟨R, hR⟩ : ∃ R, R = decide (xs = ys) := ⟨_, rfl⟩
  have HR : Hid (R = decide (xs = ys)) := hR
  rw [← hR]
  clear hr1 hr2 hx hy hnn hlen hR
  go_enter Tryz.func62, Tryz.ntmps62
  go_upto_region 4 with fail
  go_loopw [17] (fun t wr => ∃ k : Nat, k ≤ n ∧ t = .int .i64 k ∧ xs.take k = ys.take k ∧ Below w.heap.size w wr) (fun t _ => (n - intOf t).toNat)
  case atStart => exact ⟨0, Nat.zero_le _, rfl, rfl, Below.refl _ _⟩
  case round =>
    obtain ⟨k, hk, rfl, htk, hwr⟩ := hrel
    by_cases hlt : k < n
    · obtain ⟨b, o, x, b', o', x', rfl, e0, rfl, f0, hx, hx'⟩ := HS.out wr hwr k hlt
      have hki : (k : Int) < n := by omega
      have KC : Hid _ := equal_any (xs.getD k []) (ys.getD k []) x x' wr (HL.out k hlt).1 (HL.out k hlt).2 hx hx'
      obtain ⟨xa, xc, rfl⟩ := isInts_form hx
      obtain ⟨ya, yc, rfl⟩ := isInts_form hx'
      obtain ⟨m, hm⟩ : ∃ m, m = (xs.getD k []).length := ⟨_, rfl⟩
      obtain ⟨m', hm'⟩ : ∃ m, m = (ys.getD k []).length := ⟨_, rfl⟩
      rw [← hm] at e0 KC
      rw [← hm'] at f0 KC
      obtain ⟨D, hD⟩ : ∃ D, D = decide (xs.getD k [] = ys.getD k []) := ⟨_, rfl⟩
      rw [← hD] at KC
      have HT : Hid (D = decide (xs.getD k [] = ys.getD k []) ∧ xs.take k = ys.take k) := ⟨hD, htk⟩
      clear hm hm' hD htk hx hx'
      go_wp2_with fail
      refine Calls.mono KC.out ?_
      rintro e w2 ⟨rfl, hb2⟩
      have hB2 : Below w.heap.size w w2 := hwr.trans (hb2.mono hwr.size)
      clear KC hb2
      cases D with
      | true =>
        go_wp2_with fail
        go_roundw
        case rel =>
          have e1 : xs.getD k [] = ys.getD k [] := by simpa using HT.out.1.symm
          exact ⟨k + 1, hlt, by go_num, take_eq_succ (by rw [← HN.out.1]; exact hlt) (by rw [← HN.out.2]; exact hlt) HT.out.2 e1, hB2⟩
        case measure => simp [intOf]; omega
      | false =>
        have HF : Hid (R = false) := by
          show R = false
          rw [HR.out]
          refine decide_eq_false fun q => ?_
          have := HT.out.1
          rw [q] at this
          simp at this
        go_wp2_with fail
        go_ret
        exact ⟨by rw [HF.out]; rfl, hB2⟩
    · have hkn : k = n := by omega
      subst hkn
      have HF : Hid (R = true) := by
        show R = true
        rw [HR.out]
        have h1 := htk
        rw [List.take_of_length_le (by rw [← HN.out.1]; exact Nat.le_refl _), List.take_of_length_le (by rw [← HN.out.2]; exact Nat.le_refl _)] at h1
        exact decide_eq_true h1
      clear htk
      go_wp2_with fail
      go_ret
      exact ⟨by rw [HF.out]; rfl, hwr⟩

/-- What Least tells. -/
def LeastPost (a : Nat → Addr) (P : ProgD) (w w' : World) (e : Ending) : Prop :=
  ∃ va vn vc ev k, e = .returned (.tuple #[.slice va vn vc, .int .i64 k, ev]) ∧ ((checkE P = none ∧ ev = .nilIface ∧ ∃ m : Nat, k = (m : Int) ∧ FixK P m ∧ IsSets w' (.slice va vn vc) (iterD P m)) ∨ ((checkE P).isNone = false ∧ Value.slice va vn vc = .slice none 0 0 ∧ k = 0 ∧ ErrV w' a (checkE P) ev)) ∧ Below w.heap.size w w'
theorem consE_bad {P : ProgD} {hs : List (List Int)} (h : (checkE P).isNone = false) : consE P hs = checkE P := by
  unfold consE
  cases e : checkE P with
  | none => rw [e] at h; cases h
  | some x => rfl
theorem rows2_isSets_make (w : World) (n : Nat) : IsSets (w.alloc (.cells (Array.replicate n (Value.slice none 0 0)) TSI)) (.slice (some ⟨w.heap.size, 0, none⟩) n n) (List.replicate n []) := by
  have := (Rows2.make w n).isSets n
  simpa using this
set_option maxRecDepth 100000 in
set_option maxHeartbeats 8000000 in
theorem least_any (a : Nat → Addr) (P : ProgD) (v1 v2 v3 : Value) (w : World) (hS : SmallP P) (h : IsProg w v1 v2 v3 P) (hE : Errs5 w a) (h3 : Three w a) :
    Calls Tryz.prog 28 #[.agg #[v1, v2, v3]] w fun e w' => LeastPost a P w w' e := by
  have H : Hid (IsProg w v1 v2 v3 P ∧ Errs5 w a ∧ SmallP P ∧ Three w a) := ⟨h, hE, hS, h3⟩
  obtain ⟨⟨a1, c1, rfl, -, -⟩, ⟨a2, c2, rfl, -, -⟩, ⟨a3, c3, rfl, -, -⟩⟩ := h
  obtain ⟨n1, hn1⟩ : ∃ m, m = P.vars.length := ⟨_, rfl⟩
  obtain ⟨n2, hn2⟩ : ∃ m, m = P.funs.length := ⟨_, rfl⟩
  obtain ⟨n3, hn3⟩ : ∃ m, m = P.stmts.length := ⟨_, rfl⟩
  rw [← hn1, ← hn2, ← hn3] at H ⊢
  obtain ⟨W, hW⟩ : ∃ W, W = w.alloc (.cells #[.slice a1 n1 c1, .slice a2 n2 c2, .slice a3 n3 c3] 26) := ⟨_, rfl⟩
  have hBW : Below w.heap.size w W := by rw [hW]; exact below1 w _
  have HX : Hid (Box3 W w.heap.size (.slice a1 n1 c1) (.slice a2 n2 c2) (.slice a3 n3 c3)) := by show Box3 _ _ _ _ _; rw [hW]; exact box3_new w _ _ _ _
  have KN : Hid (Calls Tryz.prog 26 #[.agg #[.slice a1 n1 c1, .slice a2 n2 c2, .slice a3 n3 c3]] W fun e w' => e = .returned (.int .i64 (nodesD P)) ∧ Below W.heap.size W w') := nodes_any a P _ _ _ W hS (H.out.1.below hBW) (H.out.2.1.below hBW)
  obtain ⟨M, hM⟩ : ∃ M : Nat, nodesD P = (M : Int) := by
    unfold nodesD
    split
    · exact ⟨_, rfl⟩
    · exact ⟨0, rfl⟩
  have HMM : Hid (nodesD P = (M : Int) ∧ M ≤ 1000000) := by
    refine ⟨hM, ?_⟩
    unfold nodesD at hM
    have hpl := places_le P P.stmts.length
    have := hS.1
    have := hS.2.2.1
    split at hM <;> omega
  rw [hM] at KN
  obtain ⟨p0, p1, p2⟩ := HX.out
  clear hn1 hn2 hn3 hE hS h3 hM
  go_enter Tryz.func28, Tryz.ntmps28
  go_upto_region 1 with fail
  rw [← hW]
  clear hW
  have hMl := HMM.out.2
  go_wp2_with fail
  refine KN.out.mono ?_
  rintro e w1 ⟨rfl, hB1⟩
  have HM1 := make_rows M hMl w1
  have hB1w : Below w.heap.size w w1 := hBW.trans (hB1.mono hBW.size)
  have HX1 : Hid (Box3 w1 w.heap.size (.slice a1 n1 c1) (.slice a2 n2 c2) (.slice a3 n3 c3)) := HX.out.below hB1
  clear KN p0 p1 p2 hB1 hBW HX
  go_upto_region 2 with fail
  obtain ⟨W2, hW2⟩ : ∃ W2, W2 = w1.alloc (.cells (Array.replicate M (Value.slice none 0 0)) TSI) := ⟨_, rfl⟩
  have hB2 : Below w1.heap.size w1 W2 := by rw [hW2]; exact below1 w1 _
  have HI2 : Hid (IsSets W2 (.slice (some ⟨w1.heap.size, 0, none⟩) M M) (List.replicate M [])) := by
    show IsSets _ _ _
    rw [hW2]
    have := rows2_isSets_make w1 M
    exact this
  have HX2 : Hid (Box3 W2 w.heap.size (.slice a1 n1 c1) (.slice a2 n2 c2) (.slice a3 n3 c3)) := HX1.out.below hB2
  have HB2 : Hid (Below w.heap.size w W2) := hB1w.trans (hB2.mono hB1w.size)
  rw [← hW2]
  clear hW2 HM1 hB2 HX1 hB1w
  obtain ⟨g, hg⟩ : ∃ g, g = w1.heap.size := ⟨_, rfl⟩
  rw [← hg] at HI2 ⊢
  clear hg
  by_cases hck : checkE P = none
  · have hMp : M = places P P.stmts.length := by
      have := HMM.out.1
      unfold nodesD at this
      rw [hck] at this
      simp at this
      omega
    have HG : Hid (checkE P = none ∧ IsSets W2 (.slice (some ⟨g, 0, none⟩) M M) (iterD P 0) ∧ ∀ k, (iterD P k).length = M) := ⟨hck, by
      show IsSets _ _ (emptyD P)
      unfold emptyD
      rw [← hMp]
      exact HI2.out, fun k => by rw [iterD_len, hMp]⟩
    clear hMp hck
    have KRd : Hid (∀ wx k ha hc, Below w.heap.size w wx → IsSets wx (.slice ha M hc) (iterD P k) → Calls Tryz.prog 29 #[.agg #[.slice a1 n1 c1, .slice a2 n2 c2, .slice a3 n3 c3], .slice ha M hc] wx fun e w' => ∃ va vc, e = .returned (.tuple #[.slice va M vc, .nilIface]) ∧ IsSets w' (.slice va M vc) (iterD P (k + 1)) ∧ Below wx.heap.size wx w') := fun wx k ha hc hb hi => by
      have hok := setsOk_iter HG.out.1 k
      refine (round_any a P _ _ _ _ (iterD P k) wx H.out.2.2.1 (H.out.1.below hb) hi (H.out.2.1.below hb) (H.out.2.2.2.below hb) (by rw [HG.out.2.2]; exact hMl) (fun j hj => by have := hok.short HG.out.1 j hj; omega)).mono ?_
      rintro e w' ⟨va, vn, vc, ev, rfl, hcs, hb'⟩
      rcases hcs with ⟨-, rfl, hr⟩ | ⟨q, -, -⟩
      · have hvn : vn = M := by
          obtain ⟨a', c', e', _⟩ := hr
          injection e' with _ e2 _
          rw [e2, roundD_len, HG.out.2.2]
        subst hvn
        exact ⟨va, vc, rfl, hr, hb'⟩
      · rw [consE_of HG.out.1 hok] at q
        cases q
    have KEq : Hid (∀ wx k va vc ha hc, IsSets wx (.slice va M vc) (iterD P (k + 1)) → IsSets wx (.slice ha M hc) (iterD P k) → Calls Tryz.prog 62 #[.slice va M vc, .slice ha M hc, .func (Fn.func 63) #[] #[]] wx fun e w' => e = .returned (.bool (decide (iterD P (k + 1) = iterD P k))) ∧ Below wx.heap.size wx w') := fun wx k va vc ha hc h1 h2 => by
      have hok := setsOk_iter HG.out.1 k
      have hok1 := setsOk_iter HG.out.1 (k + 1)
      exact equalFunc_any _ _ _ _ wx h1 h2 (by rw [HG.out.2.2, HG.out.2.2]) (by rw [HG.out.2.2]; exact hMl) (fun j hj => by have := hok1.short HG.out.1 j hj; omega) (fun j hj => by have := hok.short HG.out.1 j hj; omega)
    clear HI2
    go_wp2_with fail
    go_loopw [5, 6] (fun t5 t6 wr => ∃ (ha : Option Addr) (hc k : Nat), t5 = .slice ha M hc ∧ t6 = .int .i64 k ∧ IsSets wr (.slice ha M hc) (iterD P k) ∧ (∀ j, j < k → roundD P (iterD P j) ≠ iterD P j) ∧ Below W2.heap.size W2 wr) (fun _ t6 _ => (40000 - intOf t6).toNat)
    case atStart => exact ⟨_, _, 0, rfl, rfl, HG.out.2.1, fun j hj => absurd hj (Nat.not_lt_zero _), Below.refl _ _⟩
    case round =>
      obtain ⟨ha, hc, k, rfl, rfl, hi, hno, hwr⟩ := hrel
      have hk := rounds_few HG.out.1 k hno
      obtain ⟨p0, p1, p2⟩ := HX2.out.below hwr
      have hBr : Below w.heap.size w wr := HB2.out.trans (hwr.mono HB2.out.size)
      have HI : Hid (IsSets wr (.slice ha M hc) (iterD P k) ∧ (∀ j, j < k → roundD P (iterD P j) ≠ iterD P j) ∧ Below w.heap.size w wr ∧ Below W2.heap.size W2 wr) := ⟨hi, hno, hBr, hwr⟩
      clear hi hno hBr hwr
      go_wp2_with fail
      refine (KRd.out wr k ha hc HI.out.2.2.1 HI.out.1).mono ?_
      rintro e w3 ⟨va, vc, rfl, hi3, hb3⟩
      have H3 : Hid (IsSets w3 (.slice va M vc) (iterD P (k + 1)) ∧ IsSets w3 (.slice ha M hc) (iterD P k) ∧ Below wr.heap.size wr w3) := ⟨hi3, HI.out.1.below hb3, hb3⟩
      clear hi3 hb3 p0 p1 p2
      go_wp2_with fail
      refine (KEq.out w3 k va vc ha hc H3.out.1 H3.out.2.1).mono ?_
      rintro e w4 ⟨rfl, hb4⟩
      obtain ⟨D, hD⟩ : ∃ D, D = decide (iterD P (k + 1) = iterD P k) := ⟨_, rfl⟩
      rw [← hD]
      have H4 : Hid (IsSets w4 (.slice va M vc) (iterD P (k + 1)) ∧ Below w.heap.size w w4 ∧ Below W2.heap.size W2 w4 ∧ D = decide (iterD P (k + 1) = iterD P k)) := by
        have hb3 := H3.out.2.2
        have h34 : Below wr.heap.size wr w4 := hb3.trans (hb4.mono hb3.size)
        exact ⟨H3.out.1.below hb4, HI.out.2.2.1.trans (h34.mono HI.out.2.2.1.size), HI.out.2.2.2.trans (h34.mono HI.out.2.2.2.size), hD⟩
      clear hb4 hD H3
      cases D with
      | true =>
        have HF : Hid (FixK P k ∧ IsSets w4 (.slice va M vc) (iterD P k)) := by
          have e : iterD P (k + 1) = iterD P k := by simpa using H4.out.2.2.2.symm
          refine ⟨⟨e, HI.out.2.1⟩, ?_⟩
          rw [← e]
          exact H4.out.1
        go_wp2_with fail
        go_ret3
        exact ⟨_, _, _, _, _, rfl, Or.inl ⟨HG.out.1, rfl, k, rfl, HF.out.1, HF.out.2⟩, H4.out.2.1⟩
      | false =>
        have hne : roundD P (iterD P k) ≠ iterD P k := fun e => by
          have := H4.out.2.2.2
          rw [show iterD P (k + 1) = iterD P k from e] at this
          simp at this
        have HNX : Hid (∀ j, j < k + 1 → roundD P (iterD P j) ≠ iterD P j) := fun j hj => by
          by_cases ej : j = k
          · rw [ej]; exact hne
          · exact HI.out.2.1 j (by omega)
        clear hne
        go_wp2_with fail
        go_roundw
        case rel => exact ⟨va, vc, k + 1, rfl, by go_num, H4.out.1, HNX.out, H4.out.2.2.1⟩
        case measure => simp [intOf]; omega
  · have hcb : (checkE P).isNone = false := by
      cases e : checkE P with
      | none => exact absurd e hck
      | some x => rfl
    have hM0 : M = 0 := by
      have := HMM.out.1
      unfold nodesD at this
      rw [hcb] at this
      simp at this
      omega
    subst hM0
    have KRd : Hid (Calls Tryz.prog 29 #[.agg #[.slice a1 n1 c1, .slice a2 n2 c2, .slice a3 n3 c3], .slice (some ⟨g, 0, none⟩) 0 0] W2 fun e w' => ∃ t x, e = .returned (.tuple #[.slice none 0 0, .iface t (.pointer (some x))]) ∧ ErrV w' a (checkE P) (.iface t (.pointer (some x))) ∧ Below W2.heap.size W2 w') := by
      refine (round_any a P _ _ _ _ [] W2 H.out.2.2.1 (H.out.1.below HB2.out) HI2.out (H.out.2.1.below HB2.out) (H.out.2.2.2.below HB2.out) (by simp) (fun j hj => by simp at hj)).mono ?_
      rintro e w' ⟨va, vn, vc, ev, rfl, hcs, hb'⟩
      rcases hcs with ⟨q, -, -⟩ | ⟨q, q2, q3⟩
      · rw [consE_bad hcb] at q
        rw [q] at hcb
        cases hcb
      · rw [consE_bad hcb] at q3
        rw [q2]
        rcases q3.cases with ⟨z, _⟩ | ⟨_, t, x, rfl⟩
        · rw [hcb] at z; cases z
        · exact ⟨t, x, rfl, q3, hb'⟩
    have HCB : Hid ((checkE P).isNone = false) := hcb
    obtain ⟨p0, p1, p2⟩ := HX2.out
    clear hcb hck HI2 HMM
    go_wp2_with fail
    go_loopw [5, 6] (fun t5 t6 wr => t5 = .slice (some ⟨g, 0, none⟩) 0 0 ∧ t6 = .int .i64 0 ∧ wr = W2) (fun _ _ _ => 0)
    case atStart => exact ⟨rfl, rfl, rfl⟩
    case round =>
      obtain ⟨rfl, rfl, rfl⟩ := hrel
      go_wp2_with fail
      refine KRd.out.mono ?_
      rintro e w3 ⟨t, x, rfl, hev, hb3⟩
      have H3 : Hid (ErrV w3 a (checkE P) (.iface t (.pointer (some x))) ∧ Below w.heap.size w w3) := ⟨hev, HB2.out.trans (hb3.mono HB2.out.size)⟩
      clear hev hb3
      go_wp2_with fail
      go_ret3
      exact ⟨_, _, _, _, _, rfl, Or.inr ⟨HCB.out, rfl, rfl, H3.out.1⟩, H3.out.2⟩
end Go.Proofs.YtimmkenmahagjaaGreatDoor

/-
  SameSets; fixed: the closed fact of a least answer, by contracts.
-/
namespace Go.Proofs.YtimmkenmahagjaaGreatDoor
open Go.RowKit Go.Extern.Stop Go.Stop Go.Extern

theorem isSet_oneF {o : Int} (h0 : 0 ≤ o) (h1 : o < 1000) : IsSet [o] := by
  refine ⟨fun j hj => ?_, fun j hj => by simp at hj⟩
  have : j = 0 := by simp at hj; omega
  subst this
  exact ⟨h0, h1⟩
set_option maxRecDepth 100000 in
set_option maxHeartbeats 8000000 in
theorem sameSets_true (xs : List (List Int)) (u v : Value) (w : World) (h1 : IsSets w u xs) (h2 : IsSets w v xs) (hn : xs.length ≤ 1000000) (hx : ∀ j, j < xs.length → (xs.getD j []).length ≤ 1000000) :
    Calls Tryz.prog 32 #[u, v] w fun e w' => e = .returned (.bool true) ∧ Below w.heap.size w w' := by
  obtain ⟨ua, uc, rfl, hr1⟩ := h1
  obtain ⟨va, vc, rfl, hr2⟩ := h2
  obtain ⟨n, hnn⟩ : ∃ n, n = xs.length := ⟨_, rfl⟩
  rw [← hnn] at hr1 hr2 hn hx ⊢
  have HS : Hid (∀ wx, Below w.heap.size w wx → ∀ j, j < n → ∃ b o x b' o' x', ua = some ⟨b, o, none⟩ ∧ wx.cell? ⟨b, o + j, none⟩ = some x ∧ va = some ⟨b', o', none⟩ ∧ wx.cell? ⟨b', o' + j, none⟩ = some x' ∧ IsInts wx x (xs.getD j []) ∧ IsInts wx x' (xs.getD j [])) := fun wx hb j hj => by
    obtain ⟨b, o, x, q1, q2, q3⟩ := hr1 j hj
    obtain ⟨b', o', x', r1, r2, r3⟩ := hr2 j hj
    exact ⟨b, o, x, b', o', x', q1, cell_keep hb q2, r1, cell_keep hb r2, q3.below hb, r3.below hb⟩
  have HL : Hid (∀ j, j < n → (xs.getD j []).length ≤ 1000000) := hx
  clear hr1 hr2 hx hnn
  go_enter Tryz.func32, Tryz.ntmps32
  go_upto_region 4 with fail
  go_loopw [5] (fun t wr => ∃ k : Nat, k ≤ n ∧ t = .int .i64 k ∧ Below w.heap.size w wr) (fun t _ => (n - intOf t).toNat)
  case atStart => exact ⟨0, Nat.zero_le _, rfl, Below.refl _ _⟩
  case round =>
    obtain ⟨k, hk, rfl, hwr⟩ := hrel
    by_cases hlt : k < n
    · obtain ⟨b, o, x, b', o', x', rfl, e0, rfl, f0, hx, hx'⟩ := HS.out wr hwr k hlt
      have hki : (k : Int) < n := by omega
      have KI : ∀ d os, Calls Tryz.prog 18 #[x, x'] (Go.Sort.grow (redrawn wr d) os) fun e w'' => e = .returned (.bool true) ∧ ∃ p : Regrown, w'' = Go.Sort.grow (redrawn wr p.d) p.os := fun d os =>
        Calls.regrown_of (sameInts_true (xs.getD k []) x x' _ (HL.out k hlt) (hx.below (below_regrown wr d os)) (hx'.below (below_regrown wr d os)))
      have E0 := cell_regrown e0
      have F0 := cell_regrown f0
      clear hx hx' e0 f0
      go_upto_region 6 with fail
      refine wp_region_quiet_below (by kernel_rfl) (by kernel_rfl) ?_
      repeat (quiet_step (first | exact KI _ _))
      refine wpQuiet_nil ?_
      intro _ hw'
      obtain ⟨⟨dq, osq⟩, hw''⟩ := hw'
      subst hw''
      have hBQ : Below w.heap.size w (Go.Sort.grow (redrawn wr dq) osq) := hwr.trans ((below_regrown wr dq osq).mono hwr.size)
      clear KI E0 F0
      go_wp2_with fail
      go_roundw
      case rel => exact ⟨k + 1, hlt, by go_num, hBQ⟩
      case measure => simp [intOf]; omega
    · go_wp2_with fail
      go_ret
      exact ⟨rfl, hwr⟩

def progF : ProgD := ⟨[[97], [98]], [], [⟨kAddr, 0, 1, []⟩, ⟨kCopy, 1, 0, []⟩]⟩
theorem progF_check : checkE progF = none := by decide
theorem progF_small : SmallP progF := by
  unfold SmallP
  refine ⟨by decide, by decide, by decide, ?_, ?_⟩
  · intro f hf
    cases hf
  · intro s hs
    simp [progF] at hs
    rcases hs with rfl | rfl <;> decide
theorem roundF (hs : List (List Int)) (a b : List Int) (hl : hs.length = 2) (h0 : norm (gotD progF hs 0) = a) (h1 : norm (gotD progF hs 1) = b) : roundD progF hs = [a, b] := by
  unfold roundD
  rw [hl]
  show [norm (gotD progF hs 0), norm (gotD progF hs 1)] = _
  rw [h0, h1]
theorem norm_one1 : norm [1] = [1] := norm_set (isSet_oneF (by decide) (by decide))
theorem norm_two1 : norm [1, 1] = [1] := (norm_congr (fun x => by simp)).trans norm_one1
theorem iterF0 : iterD progF 0 = [[], []] := by decide
theorem iterF1 : iterD progF 1 = [[1], []] := by
  show roundD progF (iterD progF 0) = _
  rw [iterF0]
  refine roundF _ _ _ rfl ?_ ?_
  · rw [show gotD progF [[], []] 0 = [1] by decide]; exact norm_one1
  · rw [show gotD progF [[], []] 1 = [] by decide]; exact norm_nil
theorem iterF2 : iterD progF 2 = [[1], [1]] := by
  show roundD progF (iterD progF 1) = _
  rw [iterF1]
  refine roundF _ _ _ rfl ?_ ?_
  · rw [show gotD progF [[1], []] 0 = [1, 1] by decide]; exact norm_two1
  · rw [show gotD progF [[1], []] 1 = [1] by decide]; exact norm_one1
theorem fixF : FixK progF 2 := by
  refine ⟨?_, fun j hj => ?_⟩
  · rw [iterF2]
    refine roundF _ _ _ rfl ?_ ?_
    · rw [show gotD progF [[1], [1]] 0 = [1, 1] by decide]; exact norm_two1
    · rw [show gotD progF [[1], [1]] 1 = [1, 1] by decide]; exact norm_two1
  · match j, hj with
    | 0, _ => show iterD progF 1 ≠ _; rw [iterF1, iterF0]; decide
    | 1, _ => show iterD progF 2 ≠ _; rw [iterF2, iterF1]; decide
abbrev fVars : Obj := .cells #[.string ⟨#[97]⟩, .string ⟨#[98]⟩] 9
abbrev fStmts : Obj := .cells #[.string ⟨#[97, 100, 100, 114]⟩, .int .i64 0, .int .i64 1, .slice none 0 0, .string ⟨#[99, 111, 112, 121]⟩, .int .i64 1, .int .i64 0, .slice none 0 0] 65
abbrev fProg (n : Nat) : Obj := .cells #[.slice (some ⟨n, 0, none⟩) 2 2, .slice none 0 0, .slice (some ⟨n + 1, 0, none⟩) 2 2] 26
theorem progF_is (w : World) : IsProg ((w.alloc fVars).alloc fStmts) (.slice (some ⟨w.heap.size, 0, none⟩) 2 2) (.slice none 0 0) (.slice (some ⟨w.heap.size + 1, 0, none⟩) 2 2) progF := by
  have hb : Below (w.alloc fVars).heap.size (w.alloc fVars) ((w.alloc fVars).alloc fStmts) := below1 _ _
  refine ⟨⟨_, _, rfl, Nat.le_refl _, fun j hj => ⟨_, _, rfl, ?_⟩⟩, ⟨_, _, rfl, Nat.le_refl _, fun j hj => absurd hj (Nat.not_lt_zero _)⟩, ⟨_, _, rfl, Nat.le_refl _, fun j hj => ⟨_, _, rfl, ?_⟩⟩⟩
  · refine cell_keep hb ?_
    match j, hj with
    | 0, _ => simp [progF, S]
    | 1, _ => simp [progF, S]
  · match j, hj with
    | 0, _ => exact ⟨.slice none 0 0, by simp [progF, S, kAddr], by simp [progF], by simp [progF], by simp, IsInts.nil _ _ _, none, 0, rfl, Nat.le_refl _⟩
    | 1, _ => exact ⟨.slice none 0 0, by simp [progF, S, kCopy], by simp [progF], by simp [progF], by simp, IsInts.nil _ _ _, none, 0, rfl, Nat.le_refl _⟩

set_option maxRecDepth 100000 in
set_option maxHeartbeats 8000000 in
theorem fixed_any (a : Nat → Addr) (w : World) (hE : Errs5 w a) (h3 : Three w a) : Calls Tryz.prog 27 #[] w fun e w' => e = .returned (.bool true) ∧ Below w.heap.size w w' := by
  obtain ⟨W0, hW0⟩ : ∃ W, W = ((w.alloc fVars).alloc fStmts).alloc (fProg w.heap.size) := ⟨_, rfl⟩
  have hB0 : Below w.heap.size w W0 := by rw [hW0]; exact ((below1 w _).alloc (by simp) _).alloc (by simp; omega) _
  have hP : IsProg W0 (.slice (some ⟨w.heap.size, 0, none⟩) 2 2) (.slice none 0 0) (.slice (some ⟨w.heap.size + 1, 0, none⟩) 2 2) progF := by
    rw [hW0]
    exact (progF_is w).below (below1 _ _)
  have K1 : Hid (Calls Tryz.prog 28 #[.agg #[.slice (some ⟨w.heap.size, 0, none⟩) 2 2, .slice none 0 0, .slice (some ⟨w.heap.size + 1, 0, none⟩) 2 2]] W0 fun e w' => ∃ b o vc x, e = .returned (.tuple #[.slice (some ⟨b, o, none⟩) 2 vc, .int .i64 2, .nilIface]) ∧ w'.cell? ⟨b, o + 1, none⟩ = some x ∧ IsInts w' x [1] ∧ Below W0.heap.size W0 w') := by
    refine (least_any a progF _ _ _ W0 progF_small hP (hE.below hB0) (h3.below hB0)).mono ?_
    rintro e w' ⟨va, vn, vc, ev, k, rfl, hcs, hb⟩
    rcases hcs with ⟨-, rfl, m, rfl, hm, hi⟩ | ⟨q, -, -, -⟩
    · obtain rfl := hm.uniq fixF
      rw [iterF2] at hi
      obtain ⟨a', c', e', hr⟩ := hi
      injection e' with e1 e2 e3
      subst e1 e2 e3
      obtain ⟨b, o, x, rfl, h1, h2⟩ := hr 1 (by decide)
      exact ⟨b, o, _, x, rfl, h1, h2, hb⟩
    · rw [progF_check] at q; cases q
  have hbox : W0.heap[w.heap.size + 2]? = some (fProg w.heap.size) := by
    have := heap_new ((w.alloc fVars).alloc fStmts) (fProg w.heap.size)
    rw [hW0]; simpa using this
  have b0 : W0.cell? ⟨w.heap.size + 2, 0, none⟩ = some (.slice (some ⟨w.heap.size, 0, none⟩) 2 2) := by rw [Lib.cell_of_heap hbox]; rfl
  have b1 : W0.cell? ⟨w.heap.size + 2, 1, none⟩ = some (.slice none 0 0) := by rw [Lib.cell_of_heap hbox]; rfl
  have b2 : W0.cell? ⟨w.heap.size + 2, 2, none⟩ = some (.slice (some ⟨w.heap.size + 1, 0, none⟩) 2 2) := by rw [Lib.cell_of_heap hbox]; rfl
  clear hbox hP hE h3
  go_enter Tryz.func27, Tryz.ntmps27
  go_upto_region 2 with fail
  rw [← hW0]
  clear hW0
  go_wp2_with fail
  refine K1.out.mono ?_
  rintro e w1 ⟨b, o, vc, x, rfl, h1, h2, hb⟩
  have hBw : Below w.heap.size w w1 := hB0.trans (hb.mono hB0.size)
  have K2 : Hid (∀ wx, wx = w1.alloc (.cells #[.int .i64 1] 3) → Calls Tryz.prog 18 #[x, .slice (some ⟨w1.heap.size, 0, none⟩) 1 1] wx fun e w' => e = .returned (.bool true) ∧ Below wx.heap.size wx w') := fun wx hwx => by
    refine sameInts_true [1] _ _ wx (by decide) (h2.below (by rw [hwx]; exact below1 _ _)) ?_
    rw [hwx]
    exact isInts_of_cells rfl (fun j hj => by obtain rfl : j = 0 := (by simpa using hj); simp)
  clear h2 K1 b0 b1 b2
  go_wp2_with fail
  refine (K2.out _ rfl).mono ?_
  rintro e w2 ⟨rfl, hb2⟩
  have hBF : Below w.heap.size w w2 := (hBw.alloc hBw.size _).trans (hb2.mono (by have := hBw.size; simp; omega))
  clear K2 hb2
  go_wp2_with fail
  go_ret
  exact ⟨rfl, hBF⟩
end Go.Proofs.YtimmkenmahagjaaGreatDoor

/-
  LargeProgram of however many statements, by a contract.
-/
namespace Go.Proofs.YtimmkenmahagjaaGreatDoor
open Go.RowKit Go.Extern.Stop Go.Stop Go.Extern

set_option maxRecDepth 100000 in
set_option maxHeartbeats 8000000 in
theorem large_m (M : Int) (hM : M ≤ 81) (P : ProgD) (v1 v2 v3 : Value) (w : World) (h : IsProg w v1 v2 v3 P) :
    Calls Tryz.prog 10 #[.agg #[v1, v2, v3], .int .i64 M] w fun e w' => ∃ r : Int, e = .returned (.int .i64 r) ∧ (r = 1 ∨ (r = 0 ∧ SmallP P ∧ SmallN P ∧ ((P.stmts.length : Int) ≤ M ∨ P.stmts.length = 81))) ∧ Below w.heap.size w w' := by
  have H : Hid (IsProg w v1 v2 v3 P) := h
  obtain ⟨⟨a1, c1, rfl, -, -⟩, ⟨a2, c2, rfl, -, -⟩, ⟨a3, c3, rfl, -, -⟩⟩ := h
  generalize hn1 : P.vars.length = n1 at *
  generalize hn2 : P.funs.length = n2 at *
  generalize hn3 : P.stmts.length = n3 at *
  have HN : Hid (P.vars.length = n1 ∧ P.funs.length = n2 ∧ P.stmts.length = n3) := ⟨hn1, hn2, hn3⟩
  clear hn1 hn2 hn3
  go_enter Tryz.func10, Tryz.ntmps10
  go_upto_region 1 with fail
  go_cut [36] (fun s wx => ∃ Bd, s = .bool Bd ∧ (Bd = false → n1 ≤ 41 ∧ n2 ≤ 8 ∧ n3 ≤ 81 ∧ ((n3 : Int) ≤ M ∨ n3 = 81)) ∧ wx = w.alloc (.cells #[.slice a1 n1 c1, .slice a2 n2 c2, .slice a3 n3 c3] 26))
  case first =>
    by_cases g1 : 15 < (n1 : Int)
    · by_cases g1' : (n1 : Int) = 41
      · have e41 : ((n1 : Int) != 41) = false := by rw [g1']; rfl
        by_cases g2 : 8 < (n2 : Int)
        · go_wp2_with fail
          go_meet
          exact ⟨true, rfl, (fun q => by cases q), rfl⟩
        · by_cases g3 : M < (n3 : Int)
          · by_cases g3' : (n3 : Int) = 81
            · have e81 : ((n3 : Int) != 81) = false := by rw [g3']; rfl
              go_wp2_with fail
              go_meet
              exact ⟨false, rfl, (fun _ => by omega), rfl⟩
            · have e81 : ((n3 : Int) != 81) = true := by simp [g3']
              go_wp2_with fail
              go_meet
              exact ⟨true, rfl, (fun q => by cases q), rfl⟩
          · go_wp2_with fail
            go_meet
            exact ⟨false, rfl, (fun _ => by omega), rfl⟩
      · have e41 : ((n1 : Int) != 41) = true := by simp [g1']
        go_wp2_with fail
        go_meet
        exact ⟨true, rfl, (fun q => by cases q), rfl⟩
    · by_cases g2 : 8 < (n2 : Int)
      · go_wp2_with fail
        go_meet
        exact ⟨true, rfl, (fun q => by cases q), rfl⟩
      · by_cases g3 : M < (n3 : Int)
        · by_cases g3' : (n3 : Int) = 81
          · have e81 : ((n3 : Int) != 81) = false := by rw [g3']; rfl
            go_wp2_with fail
            go_meet
            exact ⟨false, rfl, (fun _ => by omega), rfl⟩
          · have e81 : ((n3 : Int) != 81) = true := by simp [g3']
            go_wp2_with fail
            go_meet
            exact ⟨true, rfl, (fun q => by cases q), rfl⟩
        · go_wp2_with fail
          go_meet
          exact ⟨false, rfl, (fun _ => by omega), rfl⟩
  case rest =>
  obtain ⟨Bd, rfl, hsm, hwc⟩ := hcut
  have hB : Below w.heap.size w wc := by rw [hwc]; exact below1 w _
  have HX : Hid (Box3 wc w.heap.size (.slice a1 n1 c1) (.slice a2 n2 c2) (.slice a3 n3 c3)) := by
    show Box3 wc w.heap.size (.slice a1 n1 c1) (.slice a2 n2 c2) (.slice a3 n3 c3)
    rw [hwc]; exact box3_new w _ _ _ _
  clear hwc
  cases Bd with
  | true =>
    clear hsm
    go_wp2_with fail
    go_ret
    exact ⟨1, rfl, Or.inl rfl, hB⟩
  | false =>
    have hsz := hsm rfl
    obtain ⟨z1, z2, z3, z4⟩ := hsz
    have HZ4 : Hid ((n3 : Int) ≤ M ∨ n3 = 81) := z4
    clear z4
    obtain ⟨x0, x1, x2⟩ := HX.out
    have HP : Hid (IsProg wc (.slice a1 n1 c1) (.slice a2 n2 c2) (.slice a3 n3 c3) P) := H.out.below hB
    clear hsm
    go_wp2_with fail
    go_loopw [5] (fun t wr => ∃ k : Nat, k ≤ n1 ∧ t = .int .i64 k ∧ wr = wc ∧ ∀ j, j < k → (P.vars.getD j []).length ≤ 20) (fun t _ => (n1 - intOf t).toNat)
    case atStart => exact ⟨0, Nat.zero_le _, rfl, rfl, fun j hj => absurd hj (Nat.not_lt_zero _)⟩
    case round =>
      obtain ⟨k, hk, rfl, hwr, hallv⟩ := hrel
      obtain rfl := hwr.symm
      have HAV : Hid (∀ j, j < k → (P.vars.getD j []).length ≤ 20) := hallv
      clear hwr hallv
      by_cases hlt : k < n1
      · obtain ⟨_, _, hv1, _, hst1⟩ := HP.out.vars
        obtain ⟨b, o, ha1, e0⟩ := hst1 k (by rw [HN.out.1]; exact hlt)
        obtain rfl : a1 = some ⟨b, o, none⟩ := by rw [← ha1]; exact (Value.slice.inj hv1).1
        obtain ⟨zb, hzb⟩ : ∃ zb, zb = S (P.vars.getD k []) := ⟨_, rfl⟩
        rw [← hzb] at e0
        have HZB : Hid (zb.size = (P.vars.getD k []).length) := by show zb.size = _; rw [hzb, S_size]
        clear hv1 hst1 ha1 hzb
        by_cases g : 20 < (zb.size : Int)
        · go_wp2_with fail
          go_ret
          exact ⟨1, rfl, Or.inl rfl, hB⟩
        · go_wp2_with fail
          go_roundw
          case rel =>
            refine ⟨k + 1, hlt, by go_num, trivial, fun j hj => ?_⟩
            rcases Nat.lt_succ_iff_lt_or_eq.1 hj with q | q
            · exact HAV.out j q
            · rw [q, ← HZB.out]; omega
          case measure => simp [intOf]; omega
      · have HVN : Hid (∀ v ∈ P.vars, v.length ≤ 1000000) := fun v hv => by
          obtain ⟨j, hj, rfl⟩ := List.mem_iff_getElem.1 hv
          have h8 := HAV.out j (by rw [HN.out.1] at hj; omega)
          have : P.vars.getD j [] = P.vars[j] := by simp [List.getD, hj]
          rw [this] at h8; omega
        clear HAV
        go_wp2_with fail
        go_loopw [6] (fun t wr => ∃ k : Nat, k ≤ n2 ∧ t = .int .i64 k ∧ wr = wc ∧ ∀ j, j < k → (P.funs.getD j default).params.length ≤ 8 ∧ (P.funs.getD j default).name.length ≤ 20) (fun t _ => (n2 - intOf t).toNat)
        case atStart => exact ⟨0, Nat.zero_le _, rfl, rfl, fun j hj => absurd hj (Nat.not_lt_zero _)⟩
        case round =>
          obtain ⟨k, hk, rfl, hwr, hall⟩ := hrel
          obtain rfl := hwr.symm
          have HA : Hid (∀ j, j < k → (P.funs.getD j default).params.length ≤ 8 ∧ (P.funs.getD j default).name.length ≤ 20) := hall
          clear hwr hall
          by_cases hlt : k < n2
          · obtain ⟨_, _, hv2, _, hst2⟩ := HP.out.funs
            obtain ⟨b, o, ha2, e0⟩ := hst2 k (by rw [HN.out.2.1]; exact hlt)
            obtain rfl : a2 = some ⟨b, o, none⟩ := by rw [← ha2]; exact (Value.slice.inj hv2).1
            obtain ⟨z, hze⟩ : ∃ z, z = P.funs.getD k default := ⟨_, rfl⟩
            have HZ : Hid (z = P.funs.getD k default) := hze
            rw [← hze] at e0
            obtain ⟨pv, r1, r2, ⟨-, pa, pc, rfl, -⟩, r3⟩ := e0
            obtain ⟨zb, hzb⟩ : ∃ zb, zb = S z.name := ⟨_, rfl⟩
            rw [← hzb] at r1
            have HZB : Hid (zb.size = z.name.length) := by show zb.size = _; rw [hzb, S_size]
            obtain ⟨m, hm⟩ : ∃ m, m = z.params.length := ⟨_, rfl⟩
            have HM : Hid (m = z.params.length) := hm
            rw [← hm] at r2
            clear hv2 hst2 ha2 hze hzb hm r3
            by_cases g : 20 < (zb.size : Int)
            · go_wp2_with fail
              go_ret
              exact ⟨1, rfl, Or.inl rfl, hB⟩
            · by_cases g8 : 8 < (m : Int)
              · go_wp2_with fail
                go_ret
                exact ⟨1, rfl, Or.inl rfl, hB⟩
              · go_wp2_with fail
                go_roundw
                case rel =>
                  refine ⟨k + 1, hlt, by go_num, trivial, fun j hj => ?_⟩
                  rcases Nat.lt_succ_iff_lt_or_eq.1 hj with q | q
                  · exact HA.out j q
                  · rw [q, ← HZ.out, ← HM.out, ← HZB.out]; omega
                case measure => simp [intOf]; omega
          · have HFN : Hid (∀ f ∈ P.funs, f.name.length ≤ 1000000) := fun f hf => by
              obtain ⟨j, hj, rfl⟩ := List.mem_iff_getElem.1 hf
              have h8 := HA.out j (by rw [HN.out.2.1] at hj; omega)
              have : P.funs.getD j default = P.funs[j] := by simp [List.getD, hj]
              rw [this] at h8; omega
            have HF : Hid (∀ f ∈ P.funs, f.params.length ≤ 100000) := fun f hf => by
              obtain ⟨j, hj, rfl⟩ := List.mem_iff_getElem.1 hf
              have h8 := HA.out j (by rw [HN.out.2.1] at hj; omega)
              have : P.funs.getD j default = P.funs[j] := by simp [List.getD, hj]
              rw [this] at h8; omega
            clear HA
            go_wp2_with fail
            go_loopw [7] (fun t wr => ∃ k : Nat, k ≤ n3 ∧ t = .int .i64 k ∧ wr = wc ∧ ∀ j, j < k → (P.stmts.getD j default).args.length ≤ 8) (fun t _ => (n3 - intOf t).toNat)
            case atStart => exact ⟨0, Nat.zero_le _, rfl, rfl, fun j hj => absurd hj (Nat.not_lt_zero _)⟩
            case round =>
              obtain ⟨k, hk, rfl, hwr, hall⟩ := hrel
              obtain rfl := hwr.symm
              have HA : Hid (∀ j, j < k → (P.stmts.getD j default).args.length ≤ 8) := hall
              clear hwr hall
              by_cases hlt : k < n3
              · obtain ⟨_, _, hv3, _, hst3⟩ := HP.out.stmts
                obtain ⟨b, o, ha3, e0⟩ := hst3 k (by rw [HN.out.2.2]; exact hlt)
                obtain rfl : a3 = some ⟨b, o, none⟩ := by rw [← ha3]; exact (Value.slice.inj hv3).1
                obtain ⟨z, hze⟩ : ∃ z, z = P.stmts.getD k default := ⟨_, rfl⟩
                have HZ : Hid (z = P.stmts.getD k default) := hze
                rw [← hze] at e0
                obtain ⟨pv, r1, r2, r3, r4, ⟨-, pa, pc, rfl, -⟩⟩ := e0
                obtain ⟨zb, hzb⟩ : ∃ zb, zb = S z.kind := ⟨_, rfl⟩
                rw [← hzb] at r1
                obtain ⟨m, hm⟩ : ∃ m, m = z.args.length := ⟨_, rfl⟩
                have HM : Hid (m = z.args.length) := hm
                rw [← hm] at r4
                clear hv3 hst3 ha3 hze hzb hm r2 r3
                by_cases g : 20 < (zb.size : Int)
                · go_wp2_with fail
                  go_ret
                  exact ⟨1, rfl, Or.inl rfl, hB⟩
                · by_cases g8 : 8 < (m : Int)
                  · go_wp2_with fail
                    go_ret
                    exact ⟨1, rfl, Or.inl rfl, hB⟩
                  · go_wp2_with fail
                    go_roundw
                    case rel =>
                      refine ⟨k + 1, hlt, by go_num, trivial, fun j hj => ?_⟩
                      rcases Nat.lt_succ_iff_lt_or_eq.1 hj with q | q
                      · exact HA.out j q
                      · rw [q, ← HZ.out, ← HM.out]; omega
                    case measure => simp [intOf]; omega
              · have HT : Hid (SmallP P) := by
                  refine ⟨by rw [HN.out.1]; omega, by rw [HN.out.2.1]; omega, by rw [HN.out.2.2]; omega, HF.out, fun s hs => ?_⟩
                  obtain ⟨j, hj, rfl⟩ := List.mem_iff_getElem.1 hs
                  have h8 := HA.out j (by rw [HN.out.2.2] at hj; omega)
                  have : P.stmts.getD j default = P.stmts[j] := by simp [List.getD, hj]
                  rw [this] at h8; omega
                clear HA
                go_wp2_with fail
                go_ret
                exact ⟨0, rfl, Or.inr ⟨rfl, HT.out, ⟨HVN.out, HFN.out⟩, HZ4.out⟩, hB⟩
end Go.Proofs.YtimmkenmahagjaaGreatDoor

/-
  OwnProgram, by a contract that tells that the program's memory is its own.
-/
namespace Go.Proofs.YtimmkenmahagjaaGreatDoor
open Go.RowKit Go.Extern.Stop Go.Stop Go.Extern

/-- What OwnProgram tells. -/
def OwnPost (P : ProgD) (w w' : World) (e : Ending) : Prop := ∃ u1 u2 u3 B pb ps qs, e = .returned (.agg #[u1, u2, u3]) ∧ St w' B pb P u1 u2 u3 ps qs ∧ w.heap.size ≤ B ∧ Below w.heap.size w w'
set_option maxRecDepth 100000 in
set_option maxHeartbeats 8000000 in
theorem ownProgram_st (P : ProgD) (v1 v2 v3 : Value) (w : World) (hs : SmallP P) (h : IsProg w v1 v2 v3 P) :
    Calls Tryz.prog 12 #[.agg #[v1, v2, v3]] w fun e w' => OwnPost P w w' e := by
  have H : Hid (IsProg w v1 v2 v3 P) := h
  have HS : Hid (SmallP P) := hs
  obtain ⟨W2, hW2⟩ : ∃ W, W = (w.alloc (.cells #[v1, v2, v3] 26)).alloc (.cells #[.slice none 0 0, .slice none 0 0, .slice none 0 0] 26) := ⟨_, rfl⟩
  have hBW : Below w.heap.size w W2 := by rw [hW2]; exact (below1 w _).alloc (by simp) _
  have hsz : W2.heap.size = w.heap.size + 2 := by rw [hW2]; simp
  have HX : Hid (Box3 W2 w.heap.size v1 v2 v3) := by
    show Box3 W2 w.heap.size v1 v2 v3
    rw [hW2]; exact (box3_new w _ _ _ _).below (below1 _ _)
  have HRB : Hid (W2.heap[w.heap.size + 1]? = some (.cells #[.slice none 0 0, .slice none 0 0, .slice none 0 0] 26 (0, 0))) := by
    show W2.heap[w.heap.size + 1]? = _
    rw [hW2]
    have := heap_new (w.alloc (.cells #[v1, v2, v3] 26)) (.cells #[.slice none 0 0, .slice none 0 0, .slice none 0 0] 26)
    rw [World.size_alloc] at this
    exact this
  obtain ⟨a1, c1, e1, hc1⟩ := isStrs_row (h.vars.below hBW)
  obtain ⟨u1, w2, hr, ho, hb⟩ := own_row W2 22 9 (.string ⟨#[]⟩) 16 Tryz.underlying22 Tryz.infoString (by decide) rfl a1 c1 (P.vars.map strV) hc1 (fun u hu => by obtain ⟨y, _, rfl⟩ := List.mem_map.1 hu; rfl) (by have := hs.1; simp; omega) 22
  have hl : (P.vars.map strV).length = P.vars.length := by simp
  rw [hl] at ho e1 hr
  obtain ⟨x1, y1, rfl⟩ := owns_form ho
  obtain ⟨B, hBe⟩ : ∃ B, B = w.heap.size + 2 := ⟨_, rfl⟩
  rw [hsz, ← hBe] at ho hb
  obtain ⟨pb, hpb⟩ : ∃ pb, pb = w2.heap.size := ⟨_, rfl⟩
  obtain ⟨m1, hm1⟩ : ∃ m, m = P.vars.length := ⟨_, rfl⟩
  obtain ⟨n2, hn2⟩ : ∃ m, m = P.funs.length := ⟨_, rfl⟩
  obtain ⟨n3, hn3⟩ : ∃ m, m = P.stmts.length := ⟨_, rfl⟩
  have hm2 : n2 ≤ 100000 := by rw [hn2]; exact hs.2.1
  have hm3 : n3 ≤ 100000 := by rw [hn3]; exact hs.2.2.1
  obtain ⟨a2, c2, e2, -⟩ := h.funs
  obtain ⟨a3, c3, e3, -⟩ := h.stmts
  have HN : Hid (n2 = P.funs.length ∧ n3 = P.stmts.length ∧ m1 = P.vars.length) := ⟨hn2, hn3, hm1⟩
  have HST : Hid (St (w2.alloc (.cells #[.slice x1 m1 y1, .slice none 0 0, .slice none 0 0] 26)) B pb { P with funs := P.funs.take 0, stmts := [] } (.slice x1 m1 y1) (.slice none 0 0) (.slice none 0 0) [] []) := by
    show St _ _ _ _ _ _ _ _ _
    rw [hm1, hpb]
    exact ⟨by have := hb.size; omega, heap_new w2 _, owns_below ho (below1 _ _), rfl, World.ownsRow_nil _ _ _ _, fun _ hj => absurd hj (Nat.not_lt_zero _), rfl, World.ownsRow_nil _ _ _ _, fun _ hj => absurd hj (Nat.not_lt_zero _)⟩
  have HBB : Hid (Below B W2 w2 ∧ Below w.heap.size w W2 ∧ W2.heap.size = B ∧ B = w.heap.size + 2 ∧ pb = w2.heap.size ∧ B ≤ pb) := ⟨hb, hBW, by omega, hBe, hpb, by have := hb.size; omega⟩
  rw [← hm1] at e1 hr
  rw [← hn2] at e2
  rw [← hn3] at e3
  subst e1 e2 e3
  rw [hW2] at hr
  have hr15 : pb ≠ w.heap.size + 1 := by have := HBB.out; omega
  clear hm1 hn2 hn3 hBW hb ho hc1 hl hsz hs h hBe
  go_enter Tryz.func12, Tryz.ntmps12
  go_wp2_with (at_builtin; refine Lib.wpList_append_run _ rfl _ _ _ _ rfl _ _ rfl rfl _ _ hr ?_)
  rw [← hpb]
  clear hr hpb
  go_loopw [5] (fun t wr => ∃ (k : Nat) (u2 : Value) (ps : List Value), k ≤ n2 ∧ t = .int .i64 k ∧ St wr B pb { P with funs := P.funs.take k, stmts := [] } (.slice x1 m1 y1) u2 (.slice none 0 0) ps [] ∧ Below B W2 wr) (fun t _ => (n2 - intOf t).toNat)
  case atStart => exact ⟨0, _, [], Nat.zero_le _, rfl, HST.out, HBB.out.1.alloc (by have := HBB.out; have := HBB.out.1.size; omega) _⟩
  case round =>
    obtain ⟨k, u2, ps, hk, rfl, hst, hB⟩ := hrel
    have hBw : Below w.heap.size w wr := HBB.out.2.1.trans (hB.mono (by have := HBB.out; omega))
    have hBx : Below W2.heap.size W2 wr := by rw [HBB.out.2.2.1]; exact hB
    obtain ⟨p0, p1, p2⟩ := HX.out.below hBx
    by_cases hlt : k < n2
    · obtain ⟨_, _, hv2, _, hst2⟩ := (H.out.below hBw).funs
      obtain ⟨g, o, ha2, e0⟩ := hst2 k (by rw [← HN.out.1]; exact hlt)
      obtain rfl : a2 = some ⟨g, o, none⟩ := by rw [← ha2]; exact (Value.slice.inj hv2).1
      obtain ⟨z, hze⟩ : ∃ z, z = P.funs.getD k default := ⟨_, rfl⟩
      have hmem : P.funs.getD k default ∈ P.funs := by simp [List.getD, HN.out.1 ▸ hlt]
      rw [← hze] at e0 hmem
      have HZ : Hid (z = P.funs.getD k default) := hze
      obtain ⟨pv, r1, r2, hi, r3⟩ := e0
      have hzl := HS.out.2.2.2.1 z hmem
      obtain ⟨nm, hnm⟩ : ∃ nm, nm = S z.name := ⟨_, rfl⟩
      obtain ⟨rt, hrt⟩ : ∃ rt, rt = z.ret := ⟨_, rfl⟩
      have HNM : Hid (nm = S z.name ∧ rt = z.ret) := ⟨hnm, hrt⟩
      rw [← hnm] at r1
      rw [← hrt] at r3
      have hi2 := hi.1
      obtain ⟨-, pa, pc, rfl, -⟩ := hi
      have KO : Hid (∀ o', Calls Tryz.prog 36 #[.slice pa z.params.length pc] (wr.alloc o') fun e w' => ∃ qa qc, e = .returned (.slice qa z.params.length qc) ∧ w'.ownsRow (wr.alloc o').heap.size 3 1 (.slice qa z.params.length qc) z.params.length (z.params.map intV) ∧ Below (wr.alloc o').heap.size (wr.alloc o') w') := fun o' => ownInts_row z.params _ _ (by omega) (hi2.below (below1 wr o'))
      obtain ⟨m, hm⟩ : ∃ m, m = z.params.length := ⟨_, rfl⟩
      have HM : Hid (m = z.params.length) := hm
      rw [← hm] at r2 KO
      have HSTR : Hid (St wr B pb { P with funs := P.funs.take k, stmts := [] } (.slice x1 m1 y1) u2 (.slice none 0 0) ps []) := hst
      clear hv2 hst2 ha2 hze hmem hnm hrt hi2 hzl hm p0 p2 hst
      go_wp2_with fail
      refine (KO.out _).mono ?_
      rintro e w5 ⟨qa, qc, rfl, ho5, hB5⟩
      have hblk5 := block_keep hB5 (heap_new wr (.cells #[.string nm, .slice pa m pc, .int .i64 rt] 77))
      have g1 : w5.cell? ⟨wr.heap.size, 1, none⟩ = some (.slice pa m pc) := by rw [Lib.cell_of_heap hblk5]; rfl
      have g2 := frozen_of_block hblk5 1
      have HB5 : Hid (Below wr.heap.size wr w5) := (below1 wr _).trans (hB5.mono (by simp))
      have HO5 : Hid (w5.ownsRow B 3 1 (.slice qa m qc) m (z.params.map intV)) := owns_mono ho5 (by have := HSTR.out.size; simp; omega)
      have HBLK5 : Hid (w5.heap[wr.heap.size]? = some (.cells #[.string nm, .slice pa m pc, .int .i64 rt] 77 (0, 0))) := hblk5
      clear KO ho5 hB5 hblk5 r1 r2 r3
      go_upto_region 8 with fail
      obtain ⟨wt, hwt⟩ : ∃ wt, wt = w5.setCell ⟨wr.heap.size, 1, none⟩ (.slice qa m qc) := ⟨_, rfl⟩
      have hbt : Below wr.heap.size wr wt := by rw [hwt]; exact HB5.out.setCell (Nat.le_refl _) _
      have hblk : wt.heap[wr.heap.size]? = some (.cells #[.string nm, .slice qa m qc, .int .i64 rt] 77 (0, 0)) := by rw [hwt, set_block _ _ _ _ _ _ HBLK5.out]; rfl
      have hot : wt.ownsRow B 3 1 (.slice qa m qc) m (z.params.map intV) := by rw [hwt]; exact owns_kept HO5.out (kept_setCell HBLK5.out _) (by decide)
      rw [← hwt]
      clear hwt g1 g2 HB5 HO5 HBLK5
      have hsT := HSTR.out.below hbt
      obtain ⟨d0, d1, d2⟩ := hsT.cells
      obtain ⟨xa, xc, rfl⟩ := owns_form hsT.o2
      have t0 : wt.cell? ⟨wr.heap.size, 0, none⟩ = some (.string nm) := by rw [Lib.cell_of_heap hblk]; rfl
      have t1 : wt.cell? ⟨wr.heap.size, 1, none⟩ = some (.slice qa m qc) := by rw [Lib.cell_of_heap hblk]; rfl
      have t2 : wt.cell? ⟨wr.heap.size, 2, none⟩ = some (.int .i64 rt) := by rw [Lib.cell_of_heap hblk]; rfl
      obtain ⟨v', w7, hr7, k0, k1, ⟨ya, yn, yc, rfl⟩, hS, hBe⟩ := hsT.addFun (by have := HN.out; simp; omega) z (.slice qa m qc) (by rw [← HM.out]; exact hot)
      rw [← HNM.out.1, ← HNM.out.2] at hr7
      have HS7 : Hid (St (w7.setCell ⟨pb, 1, none⟩ (.slice ya yn yc)) B pb { P with funs := P.funs.take (k + 1), stmts := [] } (.slice x1 m1 y1) (.slice ya yn yc) (.slice none 0 0) (ps ++ [.slice qa m qc]) [] ∧ Below B W2 (w7.setCell ⟨pb, 1, none⟩ (.slice ya yn yc))) := by
        refine ⟨?_, (hB.trans (hbt.mono HSTR.out.size)).trans hBe⟩
        rw [take_snoc P.funs default k (by rw [← HN.out.1]; exact hlt), ← HZ.out]
        exact hS
      obtain ⟨mk, hmk⟩ : ∃ m, m = ({ P with funs := P.funs.take k, stmts := [] } : ProgD).funs.length := ⟨_, rfl⟩
      rw [← hmk] at d1 hr7 k0
      have HR7 : Hid _ := hr7
      clear hS hBe hsT hbt hblk hot HSTR hmk d0 d2 hr7
      go_wp2_with (at_builtin; refine Lib.wpList_append_run _ rfl _ _ _ _ rfl _ _ rfl rfl _ _ HR7.out ?_)
      go_roundw
      case rel => exact ⟨k + 1, _, _, hlt, by go_num, HS7.out⟩
      case measure => simp [intOf]; omega
    · obtain rfl : k = n2 := by omega
      have hT : P.funs.take k = P.funs := by rw [HN.out.1]; exact List.take_length
      rw [hT] at hst
      obtain ⟨wq, hwq⟩ : ∃ wq, wq = wr := ⟨_, rfl⟩
      rw [← hwq] at hst hB hBw hBx p0 p1 p2 ⊢
      have HST2 : Hid (St wq B pb { P with funs := P.funs, stmts := P.stmts.take 0 } (.slice x1 m1 y1) u2 (.slice none 0 0) ps []) := hst
      have HBQ : Hid (Below B W2 wq) := hB
      clear hT hwq hst hB hBw hBx hlt hk
      go_wp2_with fail
      clear p0 p1 p2
      go_loopw [7] (fun t wr => ∃ (k : Nat) (u3 : Value) (qs : List Value), k ≤ n3 ∧ t = .int .i64 k ∧ St wr B pb { P with funs := P.funs, stmts := P.stmts.take k } (.slice x1 m1 y1) u2 u3 ps qs ∧ Below B W2 wr) (fun t _ => (n3 - intOf t).toNat)
      case atStart => exact ⟨0, _, [], Nat.zero_le _, rfl, HST2.out, HBQ.out⟩
      case round =>
        obtain ⟨k, u3, qs, hk, rfl, hst, hB⟩ := hrel
        have hBw : Below w.heap.size w wr := HBB.out.2.1.trans (hB.mono (by have := HBB.out; omega))
        have hBx : Below W2.heap.size W2 wr := by rw [HBB.out.2.2.1]; exact hB
        obtain ⟨p0, p1, p2⟩ := HX.out.below hBx
        by_cases hlt : k < n3
        · obtain ⟨_, _, hv2, _, hst2⟩ := (H.out.below hBw).stmts
          obtain ⟨g, o, ha2, e0⟩ := hst2 k (by rw [← HN.out.2.1]; exact hlt)
          obtain rfl : a3 = some ⟨g, o, none⟩ := by rw [← ha2]; exact (Value.slice.inj hv2).1
          obtain ⟨z, hze⟩ : ∃ z, z = P.stmts.getD k default := ⟨_, rfl⟩
          have hmem : P.stmts.getD k default ∈ P.stmts := by simp [List.getD, HN.out.2.1 ▸ hlt]
          rw [← hze] at e0 hmem
          have HZ : Hid (z = P.stmts.getD k default) := hze
          obtain ⟨pv, r1, r2, r3, r4, hi⟩ := e0
          have hzl := HS.out.2.2.2.2 z hmem
          obtain ⟨nm, hnm⟩ : ∃ nm, nm = S z.kind := ⟨_, rfl⟩
          obtain ⟨zx, hzx⟩ : ∃ rt, rt = z.x := ⟨_, rfl⟩
          obtain ⟨zy, hzy⟩ : ∃ rt, rt = z.y := ⟨_, rfl⟩
          have HNM : Hid (nm = S z.kind ∧ zx = z.x ∧ zy = z.y) := ⟨hnm, hzx, hzy⟩
          rw [← hnm] at r1
          rw [← hzx] at r2
          rw [← hzy] at r3
          have hi2 := hi.1
          obtain ⟨-, pa, pc, rfl, -⟩ := hi
          have KO : Hid (∀ o', Calls Tryz.prog 36 #[.slice pa z.args.length pc] (wr.alloc o') fun e w' => ∃ qa qc, e = .returned (.slice qa z.args.length qc) ∧ w'.ownsRow (wr.alloc o').heap.size 3 1 (.slice qa z.args.length qc) z.args.length (z.args.map intV) ∧ Below (wr.alloc o').heap.size (wr.alloc o') w') := fun o' => ownInts_row z.args _ _ (by omega) (hi2.below (below1 wr o'))
          obtain ⟨m, hm⟩ : ∃ m, m = z.args.length := ⟨_, rfl⟩
          have HM : Hid (m = z.args.length) := hm
          rw [← hm] at r4 KO
          have HSTR : Hid (St wr B pb { P with funs := P.funs, stmts := P.stmts.take k } (.slice x1 m1 y1) u2 u3 ps qs) := hst
          clear hv2 hst2 ha2 hze hmem hnm hzx hzy hi2 hzl hm p0 p1 hst
          go_wp2_with fail
          refine (KO.out _).mono ?_
          rintro e w5 ⟨qa, qc, rfl, ho5, hB5⟩
          have hblk5 := block_keep hB5 (heap_new wr (.cells #[.string nm, .int .i64 zx, .int .i64 zy, .slice pa m pc] 65))
          have g1 : w5.cell? ⟨wr.heap.size, 3, none⟩ = some (.slice pa m pc) := by rw [Lib.cell_of_heap hblk5]; rfl
          have g2 := frozen_of_block hblk5 3
          have HB5 : Hid (Below wr.heap.size wr w5) := (below1 wr _).trans (hB5.mono (by simp))
          have HO5 : Hid (w5.ownsRow B 3 1 (.slice qa m qc) m (z.args.map intV)) := owns_mono ho5 (by have := HSTR.out.size; simp; omega)
          have HBLK5 : Hid (w5.heap[wr.heap.size]? = some (.cells #[.string nm, .int .i64 zx, .int .i64 zy, .slice pa m pc] 65 (0, 0))) := hblk5
          clear KO ho5 hB5 hblk5 r1 r2 r3 r4
          go_upto_region 14 with fail
          obtain ⟨wt, hwt⟩ : ∃ wt, wt = w5.setCell ⟨wr.heap.size, 3, none⟩ (.slice qa m qc) := ⟨_, rfl⟩
          have hbt : Below wr.heap.size wr wt := by rw [hwt]; exact HB5.out.setCell (Nat.le_refl _) _
          have hblk : wt.heap[wr.heap.size]? = some (.cells #[.string nm, .int .i64 zx, .int .i64 zy, .slice qa m qc] 65 (0, 0)) := by rw [hwt, set_block _ _ _ _ _ _ HBLK5.out]; rfl
          have hot : wt.ownsRow B 3 1 (.slice qa m qc) m (z.args.map intV) := by rw [hwt]; exact owns_kept HO5.out (kept_setCell HBLK5.out _) (by decide)
          rw [← hwt]
          clear hwt g1 g2 HB5 HO5 HBLK5
          have hsT := HSTR.out.below hbt
          obtain ⟨d0, d1, d2⟩ := hsT.cells
          obtain ⟨xa, xc, rfl⟩ := owns_form hsT.o3
          have t0 : wt.cell? ⟨wr.heap.size, 0, none⟩ = some (.string nm) := by rw [Lib.cell_of_heap hblk]; rfl
          have t1 : wt.cell? ⟨wr.heap.size, 1, none⟩ = some (.int .i64 zx) := by rw [Lib.cell_of_heap hblk]; rfl
          have t2 : wt.cell? ⟨wr.heap.size, 2, none⟩ = some (.int .i64 zy) := by rw [Lib.cell_of_heap hblk]; rfl
          have t3 : wt.cell? ⟨wr.heap.size, 3, none⟩ = some (.slice qa m qc) := by rw [Lib.cell_of_heap hblk]; rfl
          obtain ⟨v', w7, hr7, k0, k1, ⟨ya, yn, yc, rfl⟩, hS, hBe⟩ := hsT.addStmt (by have := HN.out; simp; omega) z (.slice qa m qc) (by rw [← HM.out]; exact hot)
          rw [← HNM.out.1, ← HNM.out.2.1, ← HNM.out.2.2] at hr7
          have HS7 : Hid (St (w7.setCell ⟨pb, 2, none⟩ (.slice ya yn yc)) B pb { P with funs := P.funs, stmts := P.stmts.take (k + 1) } (.slice x1 m1 y1) u2 (.slice ya yn yc) ps (qs ++ [.slice qa m qc]) ∧ Below B W2 (w7.setCell ⟨pb, 2, none⟩ (.slice ya yn yc))) := by
            refine ⟨?_, (hB.trans (hbt.mono HSTR.out.size)).trans hBe⟩
            rw [take_snoc P.stmts default k (by rw [← HN.out.2.1]; exact hlt), ← HZ.out]
            exact hS
          obtain ⟨mk, hmk⟩ : ∃ m, m = ({ P with funs := P.funs, stmts := P.stmts.take k } : ProgD).stmts.length := ⟨_, rfl⟩
          rw [← hmk] at d2 hr7 k0
          have HR7 : Hid _ := hr7
          clear hS hBe hsT hbt hblk hot HSTR hmk d0 d1 hr7
          go_wp2_with (at_builtin; refine Lib.wpList_append_run _ rfl _ _ _ _ rfl _ _ rfl rfl _ _ HR7.out ?_)
          go_roundw
          case rel => exact ⟨k + 1, _, _, hlt, by go_num, HS7.out⟩
          case measure => simp [intOf]; omega
        · obtain rfl : k = n3 := by omega
          have hT : P.stmts.take k = P.stmts := by rw [HN.out.2.1]; exact List.take_length
          rw [hT] at hst
          have hblk := block_keep hBx HRB.out
          have f0 := frozen_of_block hblk 0
          have f1 := frozen_of_block hblk 1
          have f2 := frozen_of_block hblk 2
          have c0 := Lib.cell_of_heap hblk 0
          have c1 := Lib.cell_of_heap hblk 1
          have c2 := Lib.cell_of_heap hblk 2
          simp only [List.getElem?_toArray, List.getElem?_cons_zero, List.getElem?_cons_succ] at c0 c1 c2
          obtain ⟨d0, d1, d2⟩ := hst.cells
          obtain ⟨xa, xc, rfl⟩ := owns_form hst.o2
          obtain ⟨za, zc, rfl⟩ := owns_form hst.o3
          have HF : Hid (∀ x0 x1' x2, St (((wr.setCell ⟨w.heap.size + 1, 0, none⟩ x0).setCell ⟨w.heap.size + 1, 1, none⟩ x1').setCell ⟨w.heap.size + 1, 2, none⟩ x2) B pb P (.slice x1 m1 y1) (.slice xa P.funs.length xc) (.slice za P.stmts.length zc) ps qs ∧ Below w.heap.size w (((wr.setCell ⟨w.heap.size + 1, 0, none⟩ x0).setCell ⟨w.heap.size + 1, 1, none⟩ x1').setCell ⟨w.heap.size + 1, 2, none⟩ x2)) := fun x0 x1' x2 =>
            ⟨hst.set3 hblk hr15 x0 x1' x2, ((hBw.setCell (Nat.le_succ _) _).setCell (Nat.le_succ _) _).setCell (Nat.le_succ _) _⟩
          obtain ⟨q2, hq2⟩ : ∃ m, m = P.funs.length := ⟨_, rfl⟩
          obtain ⟨q3, hq3⟩ : ∃ m, m = P.stmts.length := ⟨_, rfl⟩
          have d1' : wr.cell? ⟨pb, 1, none⟩ = some (.slice xa q2 xc) := by rw [d1, hq2]
          have d2' : wr.cell? ⟨pb, 2, none⟩ = some (.slice za q3 zc) := by rw [d2, hq3]
          rw [← hq2, ← hq3] at HF
          clear hst hblk hT hq2 hq3 d1 d2
          go_wp2_with fail
          refine bodyPost_ret (v := .agg #[.slice x1 m1 y1, .slice xa q2 xc, .slice za q3 zc]) (by simp [results, Tryz.results12, go_sem, c0, c1, c2]) rfl ?_
          exact ⟨_, _, _, B, pb, ps, qs, rfl, (HF.out _ _ _).1, by have := HBB.out; omega, (HF.out _ _ _).2⟩
end Go.Proofs.YtimmkenmahagjaaGreatDoor

/-
  A row of statements of one's own, whose args lie in older memory.
-/
namespace Go.Proofs.YtimmkenmahagjaaGreatDoor
open Go.RowKit Go.Extern.Stop Go.Stop Go.Extern

abbrev TSt : TypeId := 65
abbrev TStS : TypeId := 24
structure RowS (w0 w : World) (u : Value) (ss : List StmtD) (qs : List Value) : Prop where
  l : qs.length = ss.length
  o : w.ownsRow w0.heap.size TSt 4 u ss.length (List.zipWith stmtCells ss qs).flatten
  i : ∀ j, j < ss.length → IsCap w0 (qs.getD j default) (ss.getD j default).args
theorem RowS.nil (w0 w : World) : RowS w0 w (.slice none 0 0) [] [] := ⟨rfl, World.ownsRow_nil _ _ _ _, fun _ hj => absurd hj (Nat.not_lt_zero _)⟩
theorem RowS.below {w0 w w' : World} {u : Value} {ss : List StmtD} {qs : List Value} (h : RowS w0 w u ss qs) (hb : Below w.heap.size w w') : RowS w0 w' u ss qs := ⟨h.l, owns_below h.o hb, h.i⟩
theorem RowS.isStmts {w0 w : World} {u : Value} {ss : List StmtD} {qs : List Value} (h : RowS w0 w u ss qs) (hb : Below w0.heap.size w0 w) : IsStmts w u ss := by
  rcases h.o.2 with ⟨hv, h0⟩ | ⟨g, cap, cur, hv, _, _, hcap, _⟩
  · exact ⟨none, 0, by rw [hv, h0], by omega, fun j hj => absurd hj (by omega)⟩
  · refine ⟨_, cap, hv, hcap, fun j hj => ⟨g, 0, rfl, qs.getD j default, ?_, ?_, ?_, ?_, (h.i j hj).below hb⟩⟩
    all_goals
      have hz := zip_at stmtCells ss qs h.l j hj
      have hlen : ∀ l ∈ List.zipWith stmtCells ss qs, l.length = 4 := fun l hl => by
        obtain ⟨i, hi, rfl⟩ := List.mem_iff_getElem.1 hl
        simp [stmtCells]
    · have := h.o.cells (show u.ownBlock = some g by rw [hv]; rfl) (j * 4 + 0) _ (by rw [flatten_at _ 4 hlen j 0 _ hz (by decide)]; rfl)
      rw [Addr.add_lit] at this
      simpa [strV, intV] using this
    · have := h.o.cells (show u.ownBlock = some g by rw [hv]; rfl) (j * 4 + 1) _ (by rw [flatten_at _ 4 hlen j 1 _ hz (by decide)]; rfl)
      rw [Addr.add_lit] at this
      simpa [strV, intV] using this
    · have := h.o.cells (show u.ownBlock = some g by rw [hv]; rfl) (j * 4 + 2) _ (by rw [flatten_at _ 4 hlen j 2 _ hz (by decide)]; rfl)
      rw [Addr.add_lit] at this
      simpa [strV, intV] using this
    · have := h.o.cells (show u.ownBlock = some g by rw [hv]; rfl) (j * 4 + 3) _ (by rw [flatten_at _ 4 hlen j 3 _ hz (by decide)]; rfl)
      rw [Addr.add_lit] at this
      simpa [strV, intV] using this
theorem RowS.add {w0 wr : World} {u : Value} {ss : List StmtD} {qs : List Value} (h : RowS w0 wr u ss qs) (hB : Below w0.heap.size w0 wr) (hl : ss.length ≤ 1000000) (s : StmtD) (pv : Value) (hone : pv.oneCell' = true) (hp : IsCap w0 pv s.args) :
    ∃ va vn vc w', (Builtin.append_ #[TStS, TStS] TStS #[u, .slice (some ⟨wr.heap.size, 0, none⟩) 1 1]).run Tryz.prog (wr.alloc (.cells #[.string (S s.kind), .int .i64 s.x, .int .i64 s.y, pv] TSt)) = .ok (.slice va vn vc) w' ∧ vn = ss.length + 1 ∧ RowS w0 w' (.slice va vn vc) (ss ++ [s]) (qs ++ [pv]) ∧ Below w0.heap.size wr w' ∧ Kept TSt wr w' := by
  obtain ⟨v', w', hr, ho, hb, hk⟩ := append_one wr w0.heap.size u ss.length 4 56 TStS TSt (.agg #[.string ⟨#[]⟩, .int .i64 0, .int .i64 0, .slice none 0 0]) _ (stmtCells s pv) h.o hB.size Tryz.underlying24 Tryz.infoStmt (by decide) rfl rfl (fun x hx => by
    simp only [stmtCells, List.mem_cons, List.not_mem_nil, or_false] at hx
    rcases hx with rfl | rfl | rfl | rfl
    · rfl
    · rfl
    · rfl
    · exact hone) hl TStS (by decide)
  obtain ⟨va, vc, rfl⟩ := owns_form ho
  refine ⟨va, _, vc, w', hr, rfl, ⟨by rw [List.length_append, List.length_append, h.l]; rfl, ?_, fun j hj => ?_⟩, hb, hk⟩
  · rw [zip_snoc stmtCells ss qs h.l, List.length_append]
    exact ho
  · by_cases e : j < ss.length
    · rw [getD_snoc_left _ _ _ _ e, getD_snoc_left _ _ _ _ (by rw [h.l]; exact e)]
      exact h.i j e
    · have e2 : j = ss.length := by rw [List.length_append, List.length_singleton] at hj; omega
      rw [getD_snoc_last _ _ _ _ e2, getD_snoc_last _ _ _ _ (by rw [h.l]; exact e2)]
      exact hp
end Go.Proofs.YtimmkenmahagjaaGreatDoor

/-
  A row of statements of one's own, two more at a time.
-/
namespace Go.Proofs.YtimmkenmahagjaaGreatDoor
open Go.RowKit Go.Extern.Stop Go.Stop Go.Extern

theorem getD_two {α : Type} (l : List α) (x d : α) (j : Nat) (hj : j < l.length + 2) : (l ++ [x, x]).getD j d = if j < l.length then l.getD j d else x := by
  rw [show l ++ [x, x] = l ++ [x] ++ [x] by simp]
  by_cases e : j < l.length
  · rw [if_pos e, getD_snoc_left _ _ _ _ (by simp; omega), getD_snoc_left _ _ _ _ e]
  · rw [if_neg e]
    by_cases e2 : j = l.length
    · rw [getD_snoc_left _ _ _ _ (by simp; omega), getD_snoc_last _ _ _ _ e2]
    · rw [getD_snoc_last _ _ _ _ (by simp; omega)]
theorem RowS.add2 {w0 w : World} {u : Value} {ss : List StmtD} {qs : List Value} (h : RowS w0 w u ss qs) (hB : Below w0.heap.size w0 w) (hl : ss.length ≤ 1000000) (s : StmtD) (pv : Value) (hone : pv.oneCell' = true) (hp : IsCap w0 pv s.args) (B : Nat)
    (hblk : w.heap[B]? = some (.cells #[.string (S s.kind), .int .i64 s.x, .int .i64 s.y, pv, .string (S s.kind), .int .i64 s.x, .int .i64 s.y, pv] TSt (0, 0))) (ty : TypeId) :
    ∃ va vc w', (Builtin.append_ #[TStS, TStS] ty #[u, .slice (some ⟨B, 0, none⟩) 2 2]).run Tryz.prog w = .ok (.slice va (ss.length + 2) vc) w' ∧ RowS w0 w' (.slice va (ss.length + 2) vc) (ss ++ [s, s]) (qs ++ [pv, pv]) ∧ Below w0.heap.size w w' ∧ KeepBut w w' u.ownBlock := by
  obtain ⟨i0, hi', hz0, hz1, hz2⟩ := info_parts Tryz.infoStmt
  obtain ⟨v', w', h1, h2, h3, _⟩ := run_append_own (P := Tryz.prog) w w0.heap.size TStS ty TSt i0 _ 4 56 Tryz.underlying24 hi' hz0 hz1 hz2 rfl (by decide) u ss.length _ h.o ⟨B, 0, none⟩ 2 2 (stmtCells s pv ++ stmtCells s pv) rfl
    (World.news_of_block hblk) (fun x hx => by
      simp only [stmtCells, List.cons_append, List.nil_append, List.mem_cons, List.not_mem_nil, or_false] at hx
      rcases hx with rfl | rfl | rfl | rfl | rfl | rfl | rfl | rfl
      · rfl
      · rfl
      · rfl
      · exact hone
      · rfl
      · rfl
      · rfl
      · exact hone) (by unfold maxLen; omega) (by omega) hB.size
  obtain ⟨va, vc, rfl⟩ := owns_form h2
  refine ⟨va, vc, w', h1, ⟨by simp [h.l], ?_, fun j hj => ?_⟩, below_of_grown h3 hB.size h.o (Nat.le_refl _), KeepBut.of_grown h3⟩
  · have e1 := zip_snoc stmtCells ss qs h.l s pv
    have e2 := zip_snoc stmtCells (ss ++ [s]) (qs ++ [pv]) (by simp [h.l]) s pv
    rw [e1] at e2
    rw [show ss ++ [s, s] = ss ++ [s] ++ [s] by simp, show qs ++ [pv, pv] = qs ++ [pv] ++ [pv] by simp, e2, List.append_assoc]
    simpa using h2
  · have hj2 : j < ss.length + 2 := by simpa using hj
    rw [getD_two _ _ _ _ hj2, getD_two _ _ _ _ (by rw [h.l]; exact hj2), h.l]
    by_cases e : j < ss.length
    · rw [if_pos e, if_pos e]
      exact h.i j e
    · rw [if_neg e, if_neg e]
      exact hp
/-- At a step of a region that draws. -/
theorem step_add2 {ops : Array Oper} {o : Oper} {a : Act} {w : World} {K : Act → World → Prop} {Q : Exit → Act → World → Prop} {E : Prop} (hgd : o.guard = none) (s x : Operand)
    (ho : o.op = .call { callee := .builtin .append, args := #[s, x], argTypes := #[TStS, TStS] }) {w0 : World} {ss : List StmtD} {qs : List Value} (ua : Option Addr) (un uc B : Nat) (st : StmtD) (pv : Value)
    (hs : a.eval s = .slice ua un uc) (hxe : a.eval x = .slice (some ⟨B, 0, none⟩) 2 2) (hR : RowS w0 w (.slice ua un uc) ss qs) (hw : Below w0.heap.size w0 w) (hl : ss.length ≤ 1000000) (hone : pv.oneCell' = true) (hp : IsCap w0 pv st.args)
    (hblk : w.heap[B]? = some (.cells #[.string (S st.kind), .int .i64 st.x, .int .i64 st.y, pv, .string (S st.kind), .int .i64 st.x, .int .i64 st.y, pv] TSt (0, 0)))
    (h : ∀ va vc w', Hid (RowS w0 w' (.slice va (ss.length + 2) vc) (ss ++ [st, st]) (qs ++ [pv, pv])) → Below w0.heap.size w0 w' → KeepBut w w' (Value.slice ua un uc).ownBlock → K (a.put o.dst (.slice va (ss.length + 2) vc)) w') :
    if Region.wanted o (yielded ops a.tmps) = true then Oper.wp Tryz.prog o a w K Q else E := by
  obtain ⟨va, vc, w', hr, hR', hb, hkp⟩ := hR.add2 hw hl st pv hone hp B hblk o.type
  exact step_append_run hgd s x _ _ ho _ _ hs hxe _ w' hr (h va vc w' hR' (hw.trans hb) hkp)
end Go.Proofs.YtimmkenmahagjaaGreatDoor

/-
  Statements in another order, twice, and one more: plain.
-/
namespace Go.Proofs.YtimmkenmahagjaaGreatDoor
open Go.RowKit Go.Extern.Stop Go.Stop Go.Extern

theorem stmtsE_all (P : ProgD) : ∀ (l : List StmtD) (k : Nat), (∀ s ∈ l, stmtE P s = none) → stmtsE P k l = none
  | [], _, _ => rfl
  | t :: r, k, h => by
    unfold stmtsE
    rw [h t (List.mem_cons_self ..)]
    exact stmtsE_all P r (k + 1) fun s hs => h s (List.mem_cons_of_mem _ hs)
theorem stmtE_congr {P Q : ProgD} (hv : Q.vars = P.vars) (hf : Q.funs = P.funs) (s : StmtD) : stmtE Q s = stmtE P s := by
  obtain ⟨v, f, l⟩ := P
  obtain ⟨v', f', l'⟩ := Q
  dsimp only at hv hf
  subst hv hf
  rfl
theorem funsE_congr {P Q : ProgD} (hv : Q.vars = P.vars) (hf : Q.funs = P.funs) : funsE Q = funsE P := by
  obtain ⟨v, f, l⟩ := P
  obtain ⟨v', f', l'⟩ := Q
  dsimp only at hv hf
  subst hv hf
  rfl
/-- A program of a right one's statements is right. -/
theorem check_of {P Q : ProgD} (hv : Q.vars = P.vars) (hf : Q.funs = P.funs) (hl : Q.stmts.length ≤ 80) (hs : ∀ s ∈ Q.stmts, s ∈ P.stmts) (h : checkE P = none) : checkE Q = none := by
  have hfull : fullB P = false := by
    cases e : fullB P with
    | false => rfl
    | true => unfold checkE at h; rw [if_pos e] at h; cases h
  have hfullQ : fullB Q = false := by
    unfold fullB at hfull ⊢
    rw [Bool.or_eq_false_iff, Bool.or_eq_false_iff] at hfull ⊢
    refine ⟨⟨by rw [hv]; exact hfull.1.1, by rw [hf]; exact hfull.1.2⟩, ?_⟩
    exact decide_eq_false (by omega)
  have hR := right_of h
  rw [checkE_eq P hfull] at h
  rw [checkE_eq Q hfullQ, show fnames Q = fnames P by unfold fnames; rw [hf], hv, funsE_congr hv hf, stmtsE_all Q Q.stmts 0 (fun s q => by rw [stmtE_congr hv hf]; exact hR.st s (hs s q))]
  cases hn : namesE P.vars (fnames P) with
  | some e => rw [hn] at h; cases h
  | none =>
    rw [hn] at h
    cases hu : funsE P with
    | some e => rw [hu] at h; cases h
    | none => rfl
/-- No statement makes a thing. -/
def NoNew (P : ProgD) : Prop := ∀ s ∈ P.stmts, s.kind ≠ kNew
theorem NoNew.places {P : ProgD} (h : NoNew P) (k : Nat) : places P k = P.vars.length := by
  unfold Go.Proofs.YtimmkenmahagjaaGreatDoor.places
  rw [List.filter_eq_nil_iff.2 fun s hs => by
    have := h s (List.mem_of_mem_take hs)
    simpa using this]
  rfl
/-- The rule of a statement that makes nothing, without its place. -/
def bareD (v : Nat) (s : StmtD) : RuleD :=
  if s.kind = kAddr then ⟨kBase, s.x, s.y, 0, []⟩ else if s.kind = kFun then ⟨kBase, s.x, (v : Int) + s.y, 0, []⟩ else ⟨s.kind, s.y, s.x, 0, s.args⟩
theorem ruleD_bare {P : ProgD} (k : Nat) (hk : (P.stmts.getD k default).kind ≠ kNew) : (ruleD P k).bare = bareD (places P P.stmts.length) (P.stmts.getD k default) := by
  unfold ruleD bareD
  by_cases e1 : (P.stmts.getD k default).kind = kAddr
  · rw [if_pos e1, if_pos e1]; rfl
  · rw [if_neg e1, if_neg e1, if_neg hk]
    by_cases e3 : (P.stmts.getD k default).kind = kFun
    · rw [if_pos e3, if_pos e3]; rfl
    · rw [if_neg e3, if_neg e3]; rfl
theorem getD_memS {α : Type} [Inhabited α] {l : List α} {k : Nat} (h : k < l.length) : l.getD k default ∈ l := by simp [List.getD, h]
theorem within_of {P Q : ProgD} (hv : Q.vars = P.vars) (hf : Q.funs = P.funs) (hp : NoNew P) (hq : NoNew Q) (hs : ∀ s ∈ P.stmts, s ∈ Q.stmts) : Within P Q := by
  refine ⟨hf.symm, fun r hr => ?_⟩
  obtain ⟨k, hk, rfl⟩ := List.mem_map.1 hr
  have hk' := List.mem_range.1 hk
  have hm := getD_memS hk'
  obtain ⟨i, hi, he⟩ := List.mem_iff_getElem.1 (hs _ hm)
  have he' : Q.stmts.getD i default = P.stmts.getD k default := by rw [← he]; simp [List.getD, hi]
  refine ⟨ruleD Q i, List.mem_map.2 ⟨i, List.mem_range.2 hi, rfl⟩, ?_⟩
  rw [ruleD_bare k (hp _ hm), ruleD_bare i (by rw [he']; exact hp _ hm), he', hp.places, hq.places, hv]
theorem closed_sub {P Q : ProgD} (hw : Within P Q) {hs : List (List Int)} (h : closedB Q hs = true) : closedB P hs = true := by
  rw [closedB_iff] at h ⊢
  refine ⟨fun r hr hk => ?_, fun p hp x hx => h.2 p (found_sub hw (Sub.refl hs) p hp) x hx⟩
  obtain ⟨r', hr', e⟩ := hw.rules r hr
  have e1 : r'.kind = r.kind := show r'.bare.kind = r.bare.kind by rw [e]
  have e2 : r'.a = r.a := show r'.bare.a = r.bare.a by rw [e]
  have e3 : r'.b = r.b := show r'.bare.b = r.bare.b by rw [e]
  have := h.1 r' hr' (by rw [e1]; exact hk)
  rw [e2, e3] at this
  exact this

/-- The statements turned around. -/
def revP (P : ProgD) : ProgD := { P with stmts := P.stmts.reverse }
theorem revP_len (P : ProgD) : (revP P).stmts.length = P.stmts.length := List.length_reverse ..
theorem NoNew.rev {P : ProgD} (h : NoNew P) : NoNew (revP P) := fun s hs => h s (List.mem_reverse.1 hs)
theorem within_rev {P : ProgD} (h : NoNew P) : Within P (revP P) := within_of rfl rfl h h.rev fun _ hs => List.mem_reverse.2 hs
theorem within_rev2 {P : ProgD} (h : NoNew P) : Within (revP P) P := within_of rfl rfl h.rev h fun _ hs => List.mem_reverse.1 hs
theorem check_rev {P : ProgD} (h : checkE P = none) : checkE (revP P) = none :=
  check_of (P := P) rfl rfl (by rw [revP_len]; exact (right_small h).1) (fun s (hs : s ∈ P.stmts.reverse) => List.mem_reverse.1 hs) h
theorem check_rev2 {P : ProgD} (h : checkE (revP P) = none) : checkE P = none := by
  have := check_rev h
  unfold revP at this
  rw [List.reverse_reverse] at this
  exact this
theorem rev_places {P : ProgD} (h : NoNew P) : places (revP P) (revP P).stmts.length = places P P.stmts.length := by
  rw [h.rev.places, h.places]; rfl
theorem rev_consE {P : ProgD} (h : NoNew P) (hs : List (List Int)) : (consE (revP P) hs).isNone = (consE P hs).isNone := by
  unfold consE
  rw [rev_places h]
  cases h1 : checkE P with
  | none => rw [check_rev h1]; rfl
  | some e =>
    cases h2 : checkE (revP P) with
    | some e2 => rfl
    | none => rw [check_rev2 h2] at h1; cases h1
theorem rev_edges {P : ProgD} (h : NoNew P) {hs : List (List Int)} {es es' : List Pair} (h1 : EdgeSet (foundD P hs) es) (h2 : EdgeSet (foundD (revP P) hs) es') : es = es' :=
  up_ext h1.up h2.up fun p => by
    rw [h1.mem, h2.mem]
    exact ⟨fun q => ⟨found_sub (within_rev h) (Sub.refl hs) p q.1, q.2⟩, fun q => ⟨found_sub (within_rev2 h) (Sub.refl hs) p q.1, q.2⟩⟩
theorem rev_closed {P : ProgD} (h : NoNew P) (hs : List (List Int)) : closedB (revP P) hs = closedB P hs := by
  rw [Bool.eq_iff_iff]
  exact ⟨closed_sub (within_rev h), closed_sub (within_rev2 h)⟩
theorem rev_nodes {P : ProgD} (h : NoNew P) : nodesD (revP P) = nodesD P := by
  unfold nodesD
  rw [rev_places h]
  cases h1 : checkE P with
  | none => rw [check_rev h1]
  | some e =>
    cases h2 : checkE (revP P) with
    | some e2 => rfl
    | none => rw [check_rev2 h2] at h1; cases h1
end Go.Proofs.YtimmkenmahagjaaGreatDoor

/-
  Statements twice, in another order, and one more: plain.
-/
namespace Go.Proofs.YtimmkenmahagjaaGreatDoor
open Go.RowKit Go.Extern.Stop Go.Stop Go.Extern

/-- What one more step of the loop lays. -/
def dblS (ss : List StmtD) : List StmtD := ss.reverse.flatMap fun s => [s, s]
theorem dblS_mem (ss : List StmtD) (s : StmtD) : s ∈ dblS ss ↔ s ∈ ss := by
  unfold dblS
  rw [List.mem_flatMap]
  constructor
  · rintro ⟨t, ht, hs⟩
    have : s = t := by simpa using hs
    rw [this]
    exact List.mem_reverse.1 ht
  · intro h
    exact ⟨s, List.mem_reverse.2 h, by simp⟩
theorem dblS_cons (s : StmtD) (ss : List StmtD) : dblS (s :: ss) = dblS ss ++ [s, s] := by
  unfold dblS
  rw [List.reverse_cons, List.flatMap_append]
  simp
theorem dblS_len (ss : List StmtD) : (dblS ss).length = ss.length * 2 := by
  induction ss with
  | nil => rfl
  | cons s r ih => rw [dblS_cons, List.length_append, ih]; simp; omega
theorem dblS_drop (ss : List StmtD) (k : Nat) (hk : k < ss.length) : dblS (ss.drop k) = dblS (ss.drop (k + 1)) ++ [ss.getD k default, ss.getD k default] := by
  rw [List.drop_eq_getElem_cons hk, dblS_cons]
  simp [List.getD, hk]
def dblP (P : ProgD) : ProgD := { P with stmts := dblS P.stmts }
theorem check_dbl {P : ProgD} (h : checkE P = none) (hl : P.stmts.length ≤ 40) : checkE (dblP P) = none :=
  check_of (P := P) rfl rfl (by show (dblS P.stmts).length ≤ 80; rw [dblS_len]; omega) (fun s (hs : s ∈ dblS P.stmts) => (dblS_mem _ _).1 hs) h
theorem NoNew.dbl {P : ProgD} (h : NoNew P) : NoNew (dblP P) := fun s hs => h s ((dblS_mem _ _).1 hs)
/-- Programs of the same rules have one least answer. -/
theorem least_eq {P Q : ProgD} (h1 : Within P Q) (h2 : Within Q P) (hn : places P P.stmts.length = places Q Q.stmts.length) (hp : checkE P = none) (hq : checkE Q = none) {k m : Nat} (hk : FixK P k) (hm : FixK Q m) : iterD P k = iterD Q m :=
  Sub.antisymm (setsOk_iter hp k) (setsOk_iter hq m) (least_sub h1 hn hm k) (least_sub h2 hn.symm hk m)
theorem dbl_least {P : ProgD} (h : NoNew P) (hc : checkE P = none) (hl : P.stmts.length ≤ 40) {k m : Nat} (hk : FixK P k) (hm : FixK (dblP P) m) : iterD P k = iterD (dblP P) m :=
  least_eq (within_of (P := P) (Q := dblP P) rfl rfl h h.dbl fun s hs => (dblS_mem _ _).2 hs) (within_of (P := dblP P) (Q := P) rfl rfl h.dbl h fun s hs => (dblS_mem _ _).1 hs) (by rw [h.places, h.dbl.places]; rfl) hc (check_dbl hc hl) hk hm
/-- With a statement more. -/
def addP (P : ProgD) (x : StmtD) : ProgD := { P with stmts := P.stmts ++ [x] }
theorem addP_places (P : ProgD) (x : StmtD) (k : Nat) (hk : k ≤ P.stmts.length) : places (addP P x) k = places P k := by
  unfold places addP
  dsimp only
  rw [List.take_append_of_le_length hk]
theorem addP_all (P : ProgD) (x : StmtD) (hx : x.kind ≠ kNew) : places (addP P x) (addP P x).stmts.length = places P P.stmts.length := by
  unfold places addP
  dsimp only
  rw [List.take_length, List.take_length, List.filter_append]
  have : ([x].filter fun s => s.kind == kNew) = [] := by simp [hx]
  rw [this, List.append_nil]
theorem within_add (P : ProgD) (x : StmtD) (hx : x.kind ≠ kNew) : Within P (addP P x) := by
  refine ⟨rfl, fun r hr => ?_⟩
  obtain ⟨k, hk, rfl⟩ := List.mem_map.1 hr
  have hk' := List.mem_range.1 hk
  refine ⟨ruleD (addP P x) k, List.mem_map.2 ⟨k, List.mem_range.2 (by show k < (P.stmts ++ [x]).length; rw [List.length_append]; omega), rfl⟩, ?_⟩
  have hs : (addP P x).stmts.getD k default = P.stmts.getD k default := getD_snoc_left _ _ _ _ hk'
  unfold ruleD
  rw [hs, addP_places P x k (Nat.le_of_lt hk'), addP_all P x hx]
theorem add_least {P : ProgD} {x : StmtD} (hx : x.kind ≠ kNew) {m : Nat} (hm : FixK (addP P x) m) (k : Nat) : Sub (iterD P k) (iterD (addP P x) m) :=
  least_sub (within_add P x hx) (addP_all P x hx).symm hm k
end Go.Proofs.YtimmkenmahagjaaGreatDoor

/-
  A statement more behind a program of one's own.
-/
namespace Go.Proofs.YtimmkenmahagjaaGreatDoor
open Go.RowKit Go.Extern.Stop Go.Stop Go.Extern

theorem isFuns_of {w : World} {B : Nat} {v2 : Value} {fs : List FunD} {ps : List Value} (hl : ps.length = fs.length) (o2 : w.ownsRow B 77 3 v2 fs.length (List.zipWith funCells fs ps).flatten) (i2 : ∀ j, j < fs.length → w.ownsRow B 3 1 (ps.getD j default) (fs.getD j default).params.length ((fs.getD j default).params.map intV)) : IsFuns w v2 fs := by
  rcases o2.2 with ⟨hv, h0⟩ | ⟨g, cap, cur, hv, _, _, hcap, _⟩
  · exact ⟨none, 0, by rw [hv, h0], by omega, fun j hj => absurd hj (by omega)⟩
  · refine ⟨_, cap, hv, hcap, fun j hj => ⟨g, 0, rfl, ps.getD j default, ?_, ?_, isCap_of_owns (i2 j hj), ?_⟩⟩
    all_goals
      have hz := zip_at funCells fs ps hl j hj
      have hlen : ∀ l ∈ List.zipWith funCells fs ps, l.length = 3 := fun l hl => by
        obtain ⟨i, hi, rfl⟩ := List.mem_iff_getElem.1 hl
        simp [funCells]
    · have := o2.cells (show v2.ownBlock = some g by rw [hv]; rfl) (j * 3 + 0) _ (by rw [flatten_at _ 3 hlen j 0 _ hz (by decide)]; rfl)
      rw [Addr.add_lit] at this
      simpa [strV, intV] using this
    · have := o2.cells (show v2.ownBlock = some g by rw [hv]; rfl) (j * 3 + 1) _ (by rw [flatten_at _ 3 hlen j 1 _ hz (by decide)]; rfl)
      rw [Addr.add_lit] at this
      simpa [strV, intV] using this
    · have := o2.cells (show v2.ownBlock = some g by rw [hv]; rfl) (j * 3 + 2) _ (by rw [flatten_at _ 3 hlen j 2 _ hz (by decide)]; rfl)
      rw [Addr.add_lit] at this
      simpa [strV, intV] using this
theorem isStmts_of {w : World} {B : Nat} {u : Value} {ss : List StmtD} {qs : List Value} (hl : qs.length = ss.length) (o3 : w.ownsRow B 65 4 u ss.length (List.zipWith stmtCells ss qs).flatten) (i : ∀ j, j < ss.length → IsCap w (qs.getD j default) (ss.getD j default).args) : IsStmts w u ss := by
  rcases o3.2 with ⟨hv, h0⟩ | ⟨g, cap, cur, hv, _, _, hcap, _⟩
  · exact ⟨none, 0, by rw [hv, h0], by omega, fun j hj => absurd hj (by omega)⟩
  · refine ⟨_, cap, hv, hcap, fun j hj => ⟨g, 0, rfl, qs.getD j default, ?_, ?_, ?_, ?_, i j hj⟩⟩
    all_goals
      have hz := zip_at stmtCells ss qs hl j hj
      have hlen : ∀ l ∈ List.zipWith stmtCells ss qs, l.length = 4 := fun l hl => by
        obtain ⟨i, hi, rfl⟩ := List.mem_iff_getElem.1 hl
        simp [stmtCells]
    · have := o3.cells (show u.ownBlock = some g by rw [hv]; rfl) (j * 4 + 0) _ (by rw [flatten_at _ 4 hlen j 0 _ hz (by decide)]; rfl)
      rw [Addr.add_lit] at this
      simpa [strV, intV] using this
    · have := o3.cells (show u.ownBlock = some g by rw [hv]; rfl) (j * 4 + 1) _ (by rw [flatten_at _ 4 hlen j 1 _ hz (by decide)]; rfl)
      rw [Addr.add_lit] at this
      simpa [strV, intV] using this
    · have := o3.cells (show u.ownBlock = some g by rw [hv]; rfl) (j * 4 + 2) _ (by rw [flatten_at _ 4 hlen j 2 _ hz (by decide)]; rfl)
      rw [Addr.add_lit] at this
      simpa [strV, intV] using this
    · have := o3.cells (show u.ownBlock = some g by rw [hv]; rfl) (j * 4 + 3) _ (by rw [flatten_at _ 4 hlen j 3 _ hz (by decide)]; rfl)
      rw [Addr.add_lit] at this
      simpa [strV, intV] using this
abbrev TPg : TypeId := 26
/-- A statement more: the run of the append, and the program behind whatever store into boxes of programs. -/
theorem st_add {w0 w : World} {B pb : Nat} {P : ProgD} {v1 v2 v3 : Value} {ps qs : List Value} (h : St w B pb P v1 v2 v3 ps qs) (hl : P.stmts.length ≤ 1000000) (X : StmtD) (pv : Value) (hone : pv.oneCell' = true) (hX : IsCap w0 pv X.args) :
    ∃ va vc w', (Builtin.append_ #[24, 24] 24 #[v3, .slice (some ⟨w.heap.size, 0, none⟩) 1 1]).run Tryz.prog (w.alloc (.cells #[.string (S X.kind), .int .i64 X.x, .int .i64 X.y, pv] 65)) = .ok (.slice va (P.stmts.length + 1) vc) w' ∧ Below B w w' ∧ Kept 65 w w' ∧
      ∀ w2, Kept TPg w' w2 → Below w0.heap.size w0 w2 → IsProg w2 v1 v2 (.slice va (P.stmts.length + 1) vc) (addP P X) := by
  obtain ⟨v', w', hr, ho, hb, hk⟩ := append_one w B v3 P.stmts.length 4 56 24 65 (.agg #[.string ⟨#[]⟩, .int .i64 0, .int .i64 0, .slice none 0 0]) _ (stmtCells X pv) h.o3 h.size Tryz.underlying24 Tryz.infoStmt (by decide) rfl rfl (fun x hx => by
    simp only [stmtCells, List.mem_cons, List.not_mem_nil, or_false] at hx
    rcases hx with rfl | rfl | rfl | rfl
    · rfl
    · rfl
    · rfl
    · exact hone) hl 24 (by decide)
  obtain ⟨va, vc, rfl⟩ := owns_form ho
  refine ⟨va, vc, w', hr, hb, hk, fun w2 hk2 hw2 => ⟨isStrs_of_owns (owns_kept (owns_kept h.o1 hk (by decide)) hk2 (by decide)), ?_, ?_⟩⟩
  · exact isFuns_of h.l2 (owns_kept (owns_kept h.o2 hk (by decide)) hk2 (by decide)) fun j hj => owns_kept (owns_kept (h.i2 j hj) hk (by decide)) hk2 (by decide)
  · have e1 := zip_snoc stmtCells P.stmts qs h.l3 X pv
    have ho2 := owns_kept ho hk2 (by decide)
    rw [← e1] at ho2
    have hlen : (addP P X).stmts.length = P.stmts.length + 1 := by show (P.stmts ++ [X]).length = _; simp
    rw [← hlen] at ho2 ⊢
    refine isStmts_of (qs := qs ++ [pv]) (by rw [hlen]; simp [h.l3]) ho2 fun j hj => ?_
    rw [hlen] at hj
    show IsCap w2 ((qs ++ [pv]).getD j default) ((P.stmts ++ [X]).getD j default).args
    by_cases e : j < P.stmts.length
    · rw [getD_snoc_left _ _ _ _ e, getD_snoc_left _ _ _ _ (by rw [h.l3]; exact e)]
      exact isCap_of_owns (owns_kept (owns_kept (h.i3 j e) hk (by decide)) hk2 (by decide))
    · rw [getD_snoc_last qs pv _ _ (by rw [h.l3]; omega), getD_snoc_last P.stmts X _ _ (by omega)]
      exact hX.below hw2
end Go.Proofs.YtimmkenmahagjaaGreatDoor

/-
  FixOrder answers true at every program and statement that read as plain data.
-/
namespace Go.Proofs.YtimmkenmahagjaaGreatDoor
open Go.RowKit Go.Extern.Stop Go.Stop Go.Extern
attribute [local go_sem ↓] Go.wp_at_zero Go.wp_at_succ

theorem SmallP.dbl {P : ProgD} (h : SmallP P) (hl : P.stmts.length ≤ 81) : SmallP (dblP P) :=
  ⟨h.1, h.2.1, by show (dblS P.stmts).length ≤ _; rw [dblS_len]; omega, h.2.2.2.1, fun s hs => h.2.2.2.2 s ((dblS_mem _ _).1 hs)⟩
theorem SmallP.add {P : ProgD} {X : StmtD} (h : SmallP P) (hl : P.stmts.length ≤ 81) (hx : X.args.length ≤ 100000) : SmallP (addP P X) :=
  ⟨h.1, h.2.1, by show (P.stmts ++ [X]).length ≤ _; simp; omega, h.2.2.2.1, fun s hs => by
    rcases List.mem_append.1 (show s ∈ P.stmts ++ [X] from hs) with q | q
    · exact h.2.2.2.2 s q
    · rw [List.mem_singleton.1 q]; exact hx⟩
theorem stmt_kindF (s : StmtD) (kd : ByteArray) (hk : kd = S s.kind) : (kd.toList == [110, 101, 119]) = (s.kind == kNew) := by rw [hk, S_toList]; rfl
theorem keep5S {w0 w : World} {p0 p1 p2 p3 p4 : Addr} {v0 v1 v2 v3 v4 : Value} (hb : Below w0.heap.size w0 w) (k0 : w0.cell? p0 = some v0) (k1 : w0.cell? p1 = some v1) (k2 : w0.cell? p2 = some v2) (k3 : w0.cell? p3 = some v3) (k4 : w0.cell? p4 = some v4) :
    Below w0.heap.size w0 w ∧ w.cell? p0 = some v0 ∧ w.cell? p1 = some v1 ∧ w.cell? p2 = some v2 ∧ w.cell? p3 = some v3 ∧ w.cell? p4 = some v4 :=
  ⟨hb, cell_keep hb k0, cell_keep hb k1, cell_keep hb k2, cell_keep hb k3, cell_keep hb k4⟩
/-- The box of the doubled program, and its row. -/
structure Dbl (w7 w : World) (rb n1 c1 n2 c2 : Nat) (a1 a2 : Option Addr) (ua : Option Addr) (un uc : Nat) (ss : List StmtD) (qs : List Value) : Prop where
  box : w.heap[rb]? = some (.cells #[.slice a1 n1 c1, .slice a2 n2 c2, .slice ua un uc] 26 (0, 0))
  row : RowS w7 w (.slice ua un uc) ss qs
  blw : Below w7.heap.size w7 w
  low : w7.heap.size ≤ rb
theorem Dbl.ne {w7 w : World} {rb n1 c1 n2 c2 : Nat} {a1 a2 ua : Option Addr} {un uc : Nat} {ss : List StmtD} {qs : List Value} (h : Dbl w7 w rb n1 c1 n2 c2 a1 a2 ua un uc ss qs) : (Value.slice ua un uc).ownBlock ≠ some rb := fun q => by
  obtain ⟨_, cs, hh⟩ := ownBlock_lt h.row.o q
  rw [h.box] at hh
  injection hh with hh
  injection hh with _ h3 _
  exact absurd h3 (by decide)
theorem Dbl.step {w7 w w' : World} {rb n1 c1 n2 c2 : Nat} {a1 a2 ua va : Option Addr} {un uc vn vc : Nat} {ss ss' : List StmtD} {qs qs' : List Value} (h : Dbl w7 w rb n1 c1 n2 c2 a1 a2 ua un uc ss qs) (hk : KeepBut w w' (Value.slice ua un uc).ownBlock) (hr : RowS w7 w' (.slice va vn vc) ss' qs') (hb : Below w7.heap.size w7 w') :
    Dbl w7 (w'.setCell ⟨rb, 2, none⟩ (.slice va vn vc)) rb n1 c1 n2 c2 a1 a2 va vn vc ss' qs' ∧ w'.cell? ⟨rb, 2, none⟩ = some (.slice ua un uc) ∧ w'.frozen? ⟨rb, 2, none⟩ = false := by
  have hbx := hk rb _ h.box h.ne
  refine ⟨⟨by rw [set_block _ _ _ _ _ _ hbx]; rfl, ⟨hr.l, owns_kept hr.o (kept_setCell hbx _) (by decide), hr.i⟩, hb.setCell h.low _, h.low⟩, by rw [Lib.cell_of_heap hbx]; rfl, Lib.frozen_of_heap hbx 2⟩

set_option maxRecDepth 100000 in
set_option maxHeartbeats 32000000 in
theorem fixOrder_any (a : Nat → Addr) (P : ProgD) (v1 v2 v3 : Value) (X : StmtD) (xv : Value) (w : World) (h : IsProg w v1 v2 v3 P) (hX : IsCap w xv X.args) (hE : Errs5 w a) (h3 : Three w a) :
    Calls Tryz.prog 8 #[.agg #[v1, v2, v3], .agg #[.string (S X.kind), .int .i64 X.x, .int .i64 X.y, xv]] w fun e w' => e = .returned (.bool true) ∧ Below w.heap.size w w' := by
  have H : Hid (IsProg w v1 v2 v3 P ∧ IsCap w xv X.args ∧ Errs5 w a ∧ Three w a) := ⟨h, hX, hE, h3⟩
  obtain ⟨⟨a1, c1, rfl, -, -⟩, ⟨a2, c2, rfl, -, -⟩, ⟨a3, c3, rfl, -, -⟩⟩ := h
  obtain ⟨-, xa, xc, rfl, -⟩ := hX
  obtain ⟨n1, hn1⟩ : ∃ m, m = P.vars.length := ⟨_, rfl⟩
  obtain ⟨n2, hn2⟩ : ∃ m, m = P.funs.length := ⟨_, rfl⟩
  obtain ⟨n3, hn3⟩ : ∃ m, m = P.stmts.length := ⟨_, rfl⟩
  obtain ⟨xn, hxn⟩ : ∃ m, m = X.args.length := ⟨_, rfl⟩
  obtain ⟨xk, hxk⟩ : ∃ m, m = S X.kind := ⟨_, rfl⟩
  obtain ⟨xx, hxx⟩ : ∃ m, m = X.x := ⟨_, rfl⟩
  obtain ⟨xy, hxy⟩ : ∃ m, m = X.y := ⟨_, rfl⟩
  have HN : Hid (n1 = P.vars.length ∧ n2 = P.funs.length ∧ n3 = P.stmts.length ∧ xn = X.args.length) := ⟨hn1, hn2, hn3, hxn⟩
  have HXK : Hid (xk = S X.kind ∧ xx = X.x ∧ xy = X.y) := ⟨hxk, hxx, hxy⟩
  rw [← hn1, ← hn2, ← hn3] at H ⊢
  rw [← hxn] at H ⊢
  rw [← hxk, ← hxx, ← hxy]
  obtain ⟨XD, hXD⟩ : ∃ D, D = (X.kind == kNew) := ⟨_, rfl⟩
  have hxd : (xk.toList == [110, 101, 119]) = XD := by rw [stmt_kindF X xk hxk, hXD]
  have HXD : Hid (XD = (X.kind == kNew)) := hXD
  clear hn1 hn2 hn3 hE h3 hxn hxk hxx hxy hXD
  obtain ⟨W, hW⟩ : ∃ W, W = (w.alloc (.cells #[.slice a1 n1 c1, .slice a2 n2 c2, .slice a3 n3 c3] 26)).alloc (.cells #[.string xk, .int .i64 xx, .int .i64 xy, .slice xa xn xc] 65) := ⟨_, rfl⟩
  have hBW : Below w.heap.size w W := by rw [hW]; exact (below1 w _).alloc (by simp) _
  have HXB : Hid (W.heap[w.heap.size + 1]? = some (.cells #[.string xk, .int .i64 xx, .int .i64 xy, .slice xa xn xc] 65 (0, 0)) ∧ Below w.heap.size w W) := by
    refine ⟨?_, hBW⟩
    rw [hW]
    have := heap_new (w.alloc (.cells #[.slice a1 n1 c1, .slice a2 n2 c2, .slice a3 n3 c3] 26)) (.cells #[.string xk, .int .i64 xx, .int .i64 xy, .slice xa xn xc] 65)
    simpa using this
  have HBX : Hid (Box3 W w.heap.size (.slice a1 n1 c1) (.slice a2 n2 c2) (.slice a3 n3 c3)) := by
    show Box3 W _ _ _ _
    rw [hW]; exact (box3_new w _ _ _ _).below (below1 _ _)
  have K1 : Hid (Calls Tryz.prog 27 #[] W fun e w' => e = .returned (.bool true) ∧ Below W.heap.size W w') := fixed_any a W (H.out.2.2.1.below hBW) (H.out.2.2.2.below hBW)
  go_enter Tryz.func8, Tryz.ntmps8
  go_upto_region 1 with fail
  rw [← hW]
  clear hW
  go_wp2_with fail
  refine K1.out.mono ?_
  rintro e w1 ⟨rfl, hB1⟩
  clear K1
  obtain ⟨p0, p1, p2⟩ := HBX.out.below hB1
  have hB1w : Below w.heap.size w w1 := hBW.trans (hB1.mono hBW.size)
  go_wp2_with fail
  refine (large_m 20 (by decide) P _ _ _ w1 (H.out.1.below hB1w)).mono ?_
  rintro e w2 ⟨r, rfl, hr, hB2⟩
  have hB2w : Below w.heap.size w w2 := hB1w.trans (hB2.mono hB1w.size)
  rcases hr with rfl | ⟨rfl, hs1, -, hm20⟩
  · go_wp2_with fail
    go_ret
    exact ⟨rfl, hB2w⟩
  have HS : Hid (SmallP P ∧ ((P.stmts.length : Int) ≤ 20 ∨ P.stmts.length = 81)) := ⟨hs1, hm20⟩
  clear hs1 hm20
  replace p0 := cell_keep hB2 p0
  replace p1 := cell_keep hB2 p1
  replace p2 := cell_keep hB2 p2
  have hB2W : Below W.heap.size W w2 := hB1.trans (hB2.mono hB1.size)
  have hxb2 := block_keep hB2W HXB.out.1
  have x0 : w2.cell? ⟨w.heap.size + 1, 0, none⟩ = some (.string xk) := by rw [Lib.cell_of_heap hxb2]; rfl
  have x3 : w2.cell? ⟨w.heap.size + 1, 3, none⟩ = some (.slice xa xn xc) := by rw [Lib.cell_of_heap hxb2]; rfl
  have HW2 : Hid (Below W.heap.size W w2) := hB2W
  clear hxb2 hB1 hB2 hB1w hB2W hBW
  by_cases g1 : 8 < (xn : Int)
  · go_wp2_with fail
    go_ret
    exact ⟨rfl, hB2w⟩
  by_cases g2 : 20 < (xk.size : Int)
  · go_wp2_with fail
    go_ret
    exact ⟨rfl, hB2w⟩
  go_wp2_with fail
  refine (ownProgram_any P _ _ _ w2 HS.out.1 (H.out.1.below hB2w)).mono ?_
  rintro e w5 ⟨u1, u2, u3, rfl, hq, hB5⟩
  have hB5w : Below w.heap.size w w5 := hB2w.trans (hB5.mono hB2w.size)
  have HQ : Hid (IsProg w5 u1 u2 u3 P) := hq
  obtain ⟨⟨b1, d1, rfl, -, -⟩, ⟨b2, d2, rfl, -, -⟩, ⟨b3, d3, rfl, -, -⟩⟩ := hq
  rw [← HN.out.1, ← HN.out.2.1, ← HN.out.2.2.1] at HQ ⊢
  have HW5 : Hid (Below W.heap.size W w5) := HW2.out.trans (hB5.mono HW2.out.size)
  clear p0 p1 p2 x0 x3 hB5 hB2w HBX HW2
  go_upto_region 5 with fail
  obtain ⟨W6, hW6⟩ : ∃ W6, W6 = w5.alloc (.cells #[.slice b1 n1 d1, .slice b2 n2 d2, .slice b3 n3 d3] 26) := ⟨_, rfl⟩
  have hB56 : Below w5.heap.size w5 W6 := by rw [hW6]; exact below1 w5 _
  have hB6w : Below w.heap.size w W6 := hB5w.trans (hB56.mono hB5w.size)
  have hX6 : Box3 W6 w5.heap.size (.slice b1 n1 d1) (.slice b2 n2 d2) (.slice b3 n3 d3) := by rw [hW6]; exact box3_new w5 _ _ _ _
  rw [← hW6]
  clear hW6
  obtain ⟨qb, hqb⟩ : ∃ b, b = w5.heap.size := ⟨_, rfl⟩
  rw [← hqb] at hX6 ⊢
  clear hqb
  have XQ : Hid (Box3 W6 qb (.slice b1 n1 d1) (.slice b2 n2 d2) (.slice b3 n3 d3)) := hX6
  obtain ⟨y0, y1, y2⟩ := hX6
  have HQ6 : Hid (∀ wx, Below W6.heap.size W6 wx → IsProg wx (.slice b1 n1 d1) (.slice b2 n2 d2) (.slice b3 n3 d3) P ∧ Errs5 wx a ∧ Three wx a ∧ Below w.heap.size w wx ∧ Below W.heap.size W wx) := fun wx hwx => ⟨(HQ.out.below hB56).below hwx, (H.out.2.2.1.below hB6w).below hwx, (H.out.2.2.2.below hB6w).below hwx, hB6w.trans (hwx.mono hB6w.size), HW5.out.trans ((hB56.trans (hwx.mono hB56.size)).mono HW5.out.size)⟩
  have HSt6 : Hid (∀ wx, Below W6.heap.size W6 wx → ∀ j, j < n3 → ∃ g o, b3 = some ⟨g, o, none⟩ ∧ StmtAt wx g (o + j * 4) (P.stmts.getD j default)) := fun wx hb j hj => by
    obtain ⟨a', c', e, _, q⟩ := (HQ6.out wx hb).1.stmts
    injection e with e1 e2 e3
    obtain ⟨g, o, r1, r2⟩ := q j (by rw [← HN.out.2.2.1]; exact hj)
    exact ⟨g, o, by rw [e1, r1], r2⟩
  have HB6 : Hid (Below w.heap.size w W6) := hB6w
  clear HQ hB56 hB5w hB6w HW5
  have KL : Hid (Calls Tryz.prog 28 #[.agg #[.slice b1 n1 d1, .slice b2 n2 d2, .slice b3 n3 d3]] W6 fun e w' => LeastPost a P W6 w' e) := least_any a P _ _ _ W6 HS.out.1 (HQ6.out W6 (Below.refl _ _)).1 (HQ6.out W6 (Below.refl _ _)).2.1 (HQ6.out W6 (Below.refl _ _)).2.2.1
  go_wp2_with fail
  refine KL.out.mono ?_
  rintro e w7 ⟨la, ln, lc, ev7, k7, rfl, hcs, hb7⟩
  clear KL
  rcases hcs with ⟨hck, rfl, m, rfl, hfx, hi7⟩ | ⟨hcb, hnil, rfl, hev⟩
  case inr =>
    injection hnil with q1 q2 q3
    subst q1 q2 q3
    obtain ⟨t, x, rfl⟩ : ∃ t x, ev7 = .iface t (.pointer (some x)) := by
      rcases hev.cases with ⟨q, _⟩ | ⟨_, q⟩
      · rw [q] at hcb; cases hcb
      · exact q
    have HBF : Hid (Below w.heap.size w w7) := HB6.out.trans (hb7.mono HB6.out.size)
    clear hev hcb
    go_wp2_with fail
    go_ret
    exact ⟨rfl, HBF.out⟩
  case inl =>
    have hok := setsOk_iter hck m
    have hll : ln = (iterD P m).length := by
      obtain ⟨a', c', e', _⟩ := hi7
      injection e' with _ e2 _
    obtain ⟨L, hL⟩ : ∃ L, L = iterD P m := ⟨_, rfl⟩
    have HLL : Hid (L = iterD P m ∧ ln = L.length ∧ checkE P = none ∧ FixK P m ∧ SetsOk P L ∧ L.length ≤ 1000000 ∧ (∀ j, j < L.length → (L.getD j []).length ≤ 200) ∧ consE P L = none ∧ closedB P L = true ∧ roundD P L = L) := by
      obtain ⟨s1, s2, s3⟩ := right_small hck
      have hpl := places_le P P.stmts.length
      have h1 := hok.len
      rw [hL]
      exact ⟨rfl, hll, hck, hfx, hok, by omega, hok.short hck, consE_of hck hok, hfx.closed hck, hfx.fix⟩
    rw [← hL] at hi7
    have HI7 : Hid (IsSets w7 (.slice la ln lc) L ∧ Below W6.heap.size W6 w7) := ⟨hi7, hb7⟩
    obtain ⟨y0, y1, y2⟩ := XQ.out.below hb7
    have hn3l : n3 ≤ 20 := by
      have h1 := HN.out.2.2.1
      have h2 := (right_small hck).1
      have h3 := HS.out.2
      omega
    have H7 : Hid (∀ wx, Below w7.heap.size w7 wx → Below W6.heap.size W6 wx ∧ IsSets wx (.slice la ln lc) L) := fun wx hb => ⟨HI7.out.2.trans (hb.mono HI7.out.2.size), HI7.out.1.below hb⟩
    clear hck hok hll hL hfx hi7 hb7
    go_upto_region 9 with fail
    obtain ⟨W8, hW8⟩ : ∃ W8, W8 = w7.alloc (.cells #[.slice b1 n1 d1, .slice b2 n2 d2, .slice none 0 0] 26) := ⟨_, rfl⟩
    have hB8 : Below w7.heap.size w7 W8 := by rw [hW8]; exact below1 w7 _
    have HD8 : Hid (∀ rb, rb = w7.heap.size → Dbl w7 W8 rb n1 d1 n2 d2 b1 b2 none 0 0 (dblS (P.stmts.drop n3)) []) := fun rb hrb => by
      rw [hrb]
      refine ⟨by rw [hW8]; exact heap_new w7 _, ?_, hB8, Nat.le_refl _⟩
      rw [List.drop_of_length_le (by rw [HN.out.2.2.1]; exact Nat.le_refl _)]
      exact RowS.nil _ _
    rw [← hW8]
    clear hW8
    obtain ⟨rb, hrb⟩ : ∃ b, b = w7.heap.size := ⟨_, rfl⟩
    rw [← hrb]
    have HD8' : Hid _ := HD8.out rb hrb
    obtain ⟨y0, y1, y2⟩ := XQ.out.below (H7.out W8 hB8).1
    clear HD8 hrb hB8
    go_wp2_with fail
    go_loopw [11, 12] (fun t11 t12 wr => ∃ (i : Nat) (nb : Bool) (ua : Option Addr) (un uc : Nat) (qs : List Value), i ≤ n3 ∧ t11 = .bool nb ∧ t12 = .int .i64 ((i : Int) - 1) ∧ nb = (P.stmts.drop i).any (fun s => s.kind == kNew) ∧ Dbl w7 wr rb n1 d1 n2 d2 b1 b2 ua un uc (dblS (P.stmts.drop i)) qs) (fun _ t12 _ => (intOf t12 + 1).toNat)
    case atStart =>
      refine ⟨n3, false, _, _, _, _, Nat.le_refl _, rfl, by go_num, ?_, HD8'.out⟩
      rw [List.drop_of_length_le (by rw [HN.out.2.2.1]; exact Nat.le_refl _)]; rfl
    case round =>
      clear HD8' y0 y1 y2
      obtain ⟨i, nb, ua, un, uc, qs, hi, rfl, rfl, hnb, hD⟩ := hrel
      obtain ⟨y0, y1, y2⟩ := XQ.out.below (H7.out wr hD.blw).1
      have z2 : wr.cell? ⟨rb, 2, none⟩ = some (.slice ua un uc) := by rw [Lib.cell_of_heap hD.box]; rfl
      by_cases hlt : 0 < i
      · obtain ⟨k, rfl⟩ : ∃ k, i = k + 1 := ⟨i - 1, by omega⟩
        rw [show ((k + 1 : Nat) : Int) - 1 = (k : Int) by omega]
        have hk3 : k < n3 := hi
        have hki : (k : Int) < n3 := by omega
        have hkl : k < P.stmts.length := by rw [← HN.out.2.2.1]; exact hk3
        obtain ⟨g, o, rfl, av, e0, e1, e2, e3, e4⟩ := HSt6.out wr (H7.out wr hD.blw).1 k hk3
        obtain ⟨D, hDk⟩ : ∃ D, D = ((P.stmts.getD k default).kind == kNew) := ⟨_, rfl⟩
        obtain ⟨g', o', q0, av', f0, f1, f2, f3, hcap0⟩ := HSt6.out w7 (H7.out w7 (Below.refl _ _)).1 k hk3
        cases q0
        have hava : av' = av := by
          have := cell_keep hD.blw f3
          rw [e3] at this
          exact (Option.some.inj this).symm
        subst hava
        obtain ⟨-, aa, ac, rfl, -⟩ := e4
        have hst := stmt_kindF (P.stmts.getD k default) _ rfl
        rw [← hDk] at hst
        have HNX : Hid ((nb || D) = (P.stmts.drop k).any (fun s => s.kind == kNew) ∧ dblS (P.stmts.drop k) = dblS (P.stmts.drop (k + 1)) ++ [P.stmts.getD k default, P.stmts.getD k default] ∧ (dblS (P.stmts.drop (k + 1))).length ≤ 1000) := by
          refine ⟨?_, dblS_drop _ _ hkl, ?_⟩
          · rw [hnb, hDk, List.drop_eq_getElem_cons hkl, List.any_cons, Bool.or_comm]
            simp [List.getD, hkl]
          · rw [dblS_len, List.length_drop]
            have := HN.out.2.2.1
            omega
        obtain ⟨st, hste⟩ : ∃ st, st = P.stmts.getD k default := ⟨_, rfl⟩
        rw [← hste] at e0 e1 e2 e3 f0 f1 f2 f3 hcap0 hst HNX
        obtain ⟨kd, hkd⟩ : ∃ kd, kd = S st.kind := ⟨_, rfl⟩
        obtain ⟨x1, hx1⟩ : ∃ z, z = st.x := ⟨_, rfl⟩
        obtain ⟨x2, hx2⟩ : ∃ z, z = st.y := ⟨_, rfl⟩
        obtain ⟨na, hna⟩ : ∃ z, z = st.args.length := ⟨_, rfl⟩
        rw [← hkd] at e0 f0 hst
        rw [← hx1] at e1 f1
        rw [← hx2] at e2 f2
        rw [← hna] at e3 f3 hcap0
        have HST : Hid (kd = S st.kind ∧ x1 = st.x ∧ x2 = st.y ∧ IsCap w7 (.slice aa na ac) st.args) := ⟨hkd, hx1, hx2, hcap0⟩
        obtain ⟨ss, hss⟩ : ∃ ss, ss = dblS (P.stmts.drop (k + 1)) := ⟨_, rfl⟩
        rw [← hss] at HNX hD
        have HD : Hid (Dbl w7 wr rb n1 d1 n2 d2 b1 b2 ua un uc ss qs) := hD
        have hf2 := (XQ.out.below (H7.out w7 (Below.refl _ _)).1).2.2
        have HC : Hid (w7.cell? ⟨qb, 2, none⟩ = some (.slice (some ⟨g, o, none⟩) n3 d3) ∧ w7.cell? ⟨g, o + k * 4, none⟩ = some (.string kd) ∧ w7.cell? ⟨g, o + k * 4 + 1, none⟩ = some (.int .i64 x1) ∧ w7.cell? ⟨g, o + k * 4 + 2, none⟩ = some (.int .i64 x2) ∧ w7.cell? ⟨g, o + k * 4 + 3, none⟩ = some (.slice aa na ac)) := ⟨hf2, f0, f1, f2, f3⟩
        clear hnb hDk hste hkd hx1 hx2 hna hss hkl f0 f1 f2 f3 hcap0 hD hf2
        go_upto_region 13 with fail
        go_cut [11] (fun s wx => s = .bool (nb || D) ∧ wx = wr)
        case first =>
          cases nb with
          | true =>
            go_wp2_with fail
            go_meet
            exact ⟨rfl, rfl⟩
          | false =>
            go_wp2_with fail
            go_meet
            exact ⟨rfl, rfl⟩
        case rest =>
        obtain ⟨rfl, hwc⟩ := hcut
        subst hwc
        have HDW : Hid (∀ wx, Below wc.heap.size wc wx → Dbl w7 wx rb n1 d1 n2 d2 b1 b2 ua un uc ss qs) := fun wx hb => ⟨block_keep hb HD.out.box, HD.out.row.below hb, HD.out.blw.trans (hb.mono HD.out.blw.size), HD.out.low⟩
        have c4a : (wc.alloc (.cells #[.string kd, .int .i64 x1, .int .i64 x2, .slice aa na ac, .string kd, .int .i64 x1, .int .i64 x2, .slice aa na ac] 65)).cell? ⟨rb, 2, none⟩ = some (.slice ua un uc) := cell_keep (below1 _ _) z2
        go_upto_region 14 with fail
        refine wp_region_noPanic ?_
        refine wp_region_held_drew (S := fun wx => Below w7.heap.size w7 wx ∧ wx.cell? ⟨qb, 2, none⟩ = some (.slice (some ⟨g, o, none⟩) n3 d3) ∧ wx.cell? ⟨g, o + k * 4, none⟩ = some (.string kd) ∧ wx.cell? ⟨g, o + k * 4 + 1, none⟩ = some (.int .i64 x1) ∧ wx.cell? ⟨g, o + k * 4 + 2, none⟩ = some (.int .i64 x2) ∧ wx.cell? ⟨g, o + k * 4 + 3, none⟩ = some (.slice aa na ac)) (by kernel_rfl) (keep5S HD.out.blw.drew HC.out.1 HC.out.2.1 HC.out.2.2.1 HC.out.2.2.2.1 HC.out.2.2.2.2) (fun hHeld => ?_)
        refine wpAnyH_take (i := 0) (oi := _) (v := .pointer (some ⟨rb, 2, none⟩)) rfl (by kernel_rfl) (by kernel_rfl) (by kernel_rfl) (fun _ _ _ h => h) (Or.inl ⟨by rfl, ?_⟩) hHeld ?_
        · (intro w hSw; obtain ⟨hSw0, hSw1, hSw2, hSw3, hSw4, hSw5⟩ := hSw; go_simp)
        try simp only [Act.put, List.setIfInBounds_toArray]
        refine wpAnyH_take (i := 2) (oi := _) (v := .pointer (some ⟨qb, 2, none⟩)) rfl (by kernel_rfl) (by kernel_rfl) (by kernel_rfl) (fun _ _ _ h => h) (Or.inl ⟨by rfl, ?_⟩) hHeld ?_
        · (intro w hSw; obtain ⟨hSw0, hSw1, hSw2, hSw3, hSw4, hSw5⟩ := hSw; go_simp)
        try simp only [Act.put]
        refine wpAnyH_take (i := 3) (oi := _) (v := .slice (some ⟨g, o, none⟩) n3 d3) rfl (by kernel_rfl) (by kernel_rfl) (by kernel_rfl) (fun _ _ _ h => h) (Or.inl ⟨by rfl, ?_⟩) hHeld ?_
        · (intro w hSw; obtain ⟨hSw0, hSw1, hSw2, hSw3, hSw4, hSw5⟩ := hSw; go_simp)
        try simp only [Act.put]
        refine wpAnyH_take (i := 4) (oi := _) (v := .int .i64 (k : Int)) rfl (by kernel_rfl) (by kernel_rfl) (by kernel_rfl) (fun _ _ _ h => h) (Or.inl ⟨by rfl, ?_⟩) hHeld ?_
        · (intro w hSw; obtain ⟨hSw0, hSw1, hSw2, hSw3, hSw4, hSw5⟩ := hSw; go_simp)
        try simp only [Act.put]
        refine wpAnyH_take (i := 5) (oi := _) (v := .pointer (some ⟨g, o + k * 4, none⟩)) rfl (by kernel_rfl) (by kernel_rfl) (by kernel_rfl) (fun _ _ _ h => h) (Or.inl ⟨by rfl, ?_⟩) hHeld ?_
        · (intro w hSw; obtain ⟨hSw0, hSw1, hSw2, hSw3, hSw4, hSw5⟩ := hSw; go_simp)
        try simp only [Act.put]
        refine wpAnyH_take (i := 6) (oi := _) (v := .agg #[.string kd, .int .i64 x1, .int .i64 x2, .slice aa na ac]) rfl (by kernel_rfl) (by kernel_rfl) (by kernel_rfl) (fun _ _ _ h => h) (Or.inl ⟨by rfl, ?_⟩) hHeld ?_
        · (intro w hSw; obtain ⟨hSw0, hSw1, hSw2, hSw3, hSw4, hSw5⟩ := hSw; go_simp)
        try simp only [Act.put]
        refine wpAnyH_take (i := 7) (oi := _) (v := .pointer (some ⟨qb, 2, none⟩)) rfl (by kernel_rfl) (by kernel_rfl) (by kernel_rfl) (fun _ _ _ h => h) (Or.inl ⟨by rfl, ?_⟩) hHeld ?_
        · (intro w hSw; obtain ⟨hSw0, hSw1, hSw2, hSw3, hSw4, hSw5⟩ := hSw; go_simp)
        try simp only [Act.put]
        refine wpAnyH_take (i := 8) (oi := _) (v := .slice (some ⟨g, o, none⟩) n3 d3) rfl (by kernel_rfl) (by kernel_rfl) (by kernel_rfl) (fun _ _ _ h => h) (Or.inl ⟨by rfl, ?_⟩) hHeld ?_
        · (intro w hSw; obtain ⟨hSw0, hSw1, hSw2, hSw3, hSw4, hSw5⟩ := hSw; go_simp)
        try simp only [Act.put]
        refine wpAnyH_take (i := 9) (oi := _) (v := .int .i64 (k : Int)) rfl (by kernel_rfl) (by kernel_rfl) (by kernel_rfl) (fun _ _ _ h => h) (Or.inl ⟨by rfl, ?_⟩) hHeld ?_
        · (intro w hSw; obtain ⟨hSw0, hSw1, hSw2, hSw3, hSw4, hSw5⟩ := hSw; go_simp)
        try simp only [Act.put]
        refine wpAnyH_take (i := 10) (oi := _) (v := .pointer (some ⟨g, o + k * 4, none⟩)) rfl (by kernel_rfl) (by kernel_rfl) (by kernel_rfl) (fun _ _ _ h => h) (Or.inl ⟨by rfl, ?_⟩) hHeld ?_
        · (intro w hSw; obtain ⟨hSw0, hSw1, hSw2, hSw3, hSw4, hSw5⟩ := hSw; go_simp)
        try simp only [Act.put]
        refine wpAnyH_take (i := 11) (oi := _) (v := .agg #[.string kd, .int .i64 x1, .int .i64 x2, .slice aa na ac]) rfl (by kernel_rfl) (by kernel_rfl) (by kernel_rfl) (fun _ _ _ h => h) (Or.inl ⟨by rfl, ?_⟩) hHeld ?_
        · (intro w hSw; obtain ⟨hSw0, hSw1, hSw2, hSw3, hSw4, hSw5⟩ := hSw; go_simp)
        try simp only [Act.put]
        refine wpAnyH_ready (rs := [1, 12]) (by kernel_rfl) (by simp) ?_
        refine AllReadyH.cons (o := _) rfl (fun K hK => ?_) (AllReadyH.cons (o := _) rfl (fun K hK => ?_) AllReadyH.nil)
        · go_simp
          refine hK.out _ _ (keep5S (by repeat (with_reducible first | assumption | exact HD.out.blw | refine Below.drew ?_ | refine below_alC ?_ _ | refine Below.setCell ?_ HD.out.low _)) HC.out.1 HC.out.2.1 HC.out.2.2.1 HC.out.2.2.2.1 HC.out.2.2.2.2) (fun hHeld => ?_)
          clear hK K
          try simp only [Act.put, List.setIfInBounds_toArray, List.set_cons_zero, List.set_cons_succ]
          refine wpAnyH_ready (rs := [12]) (by kernel_rfl) (by simp) ?_
          refine AllReadyH.cons (o := _) rfl (fun K hK => ?_) AllReadyH.nil
          go_simp
          refine hK.out _ _ (keep5S (by repeat (with_reducible first | assumption | exact HD.out.blw | refine Below.drew ?_ | refine below_alC ?_ _ | refine Below.setCell ?_ HD.out.low _)) HC.out.1 HC.out.2.1 HC.out.2.2.1 HC.out.2.2.2.1 HC.out.2.2.2.2) (fun hHeld => ?_)
          clear hK K
          try simp only [Act.put, List.setIfInBounds_toArray, List.set_cons_zero, List.set_cons_succ]
          refine wpAnyH_ready (rs := [13]) (by kernel_rfl) (by simp) ?_
          refine AllReadyH.cons (o := _) rfl (fun K hK => ?_) AllReadyH.nil
          refine step_add2 (by rfl) _ _ (by rfl) ua un uc _ st (.slice aa na ac) (by rfl) (by rfl) (HDW.out _ (by repeat (with_reducible first | exact Below.refl _ _ | refine Below.drew ?_ | refine below_alC ?_ _))).row (HDW.out _ (by repeat (with_reducible first | exact Below.refl _ _ | refine Below.drew ?_ | refine below_alC ?_ _))).blw (Nat.le_trans HNX.out.2.2 (by decide)) rfl HST.out.2.2.2 (by rw [← HST.out.1, ← HST.out.2.1, ← HST.out.2.2.1]; exact heap_new _ _) ?_
          intro va vc w5 hR5 hbw5 hkp5
          obtain ⟨hD5, hc5, hf5⟩ := Dbl.step (HDW.out _ (by repeat (with_reducible first | exact Below.refl _ _ | refine Below.drew ?_ | refine below_alC ?_ _))) hkp5 hR5.out hbw5
          have HD5 : Hid _ := hD5
          clear hD5
          refine hK.out _ _ (keep5S (by repeat (with_reducible first | assumption | exact HD.out.blw | refine Below.drew ?_ | refine below_alC ?_ _ | refine Below.setCell ?_ HD.out.low _)) HC.out.1 HC.out.2.1 HC.out.2.2.1 HC.out.2.2.2.1 HC.out.2.2.2.2) (fun hHeld => ?_)
          clear hK K
          try simp only [Act.put, List.setIfInBounds_toArray]
          refine wpAnyH_take (i := 14) (oi := _) (v := .pointer (some ⟨rb, 2, none⟩)) rfl (by kernel_rfl) (by kernel_rfl) (by kernel_rfl) (fun _ _ _ h => h) (Or.inl ⟨by rfl, ?_⟩) hHeld ?_
          · (intro w hSw; obtain ⟨hSw0, hSw1, hSw2, hSw3, hSw4, hSw5⟩ := hSw; go_simp)
          try simp only [Act.put]
          refine wpAnyH_ready (rs := [15]) (by kernel_rfl) (by simp) ?_
          refine AllReadyH.cons (o := _) rfl (fun K hK => ?_) AllReadyH.nil
          go_simp
          refine hK.out _ _ (keep5S (by repeat (with_reducible first | assumption | exact HD.out.blw | refine Below.drew ?_ | refine below_alC ?_ _ | refine Below.setCell ?_ HD.out.low _)) HC.out.1 HC.out.2.1 HC.out.2.2.1 HC.out.2.2.2.1 HC.out.2.2.2.2) (fun hHeld => ?_)
          clear hK K
          try simp only [Act.put, List.setIfInBounds_toArray, List.set_cons_zero, List.set_cons_succ]
          refine wpAnyH_done (by kernel_rfl) ?_ _
          refine NoPanic.normal ?_
          go_wp2_with fail
          go_roundw
          case rel => exact ⟨k, nb || D, va, _, vc, _, by omega, rfl, by go_num, HNX.out.1, by rw [HNX.out.2.1]; exact HD5.out⟩
          case measure => simp [intOf]
        · go_simp
          refine hK.out _ _ (keep5S (by repeat (with_reducible first | assumption | exact HD.out.blw | refine Below.drew ?_ | refine below_alC ?_ _ | refine Below.setCell ?_ HD.out.low _)) HC.out.1 HC.out.2.1 HC.out.2.2.1 HC.out.2.2.2.1 HC.out.2.2.2.2) (fun hHeld => ?_)
          clear hK K
          try simp only [Act.put, List.setIfInBounds_toArray, List.set_cons_zero, List.set_cons_succ]
          refine wpAnyH_ready (rs := [1]) (by kernel_rfl) (by simp) ?_
          refine AllReadyH.cons (o := _) rfl (fun K hK => ?_) AllReadyH.nil
          go_simp
          refine hK.out _ _ (keep5S (by repeat (with_reducible first | assumption | exact HD.out.blw | refine Below.drew ?_ | refine below_alC ?_ _ | refine Below.setCell ?_ HD.out.low _)) HC.out.1 HC.out.2.1 HC.out.2.2.1 HC.out.2.2.2.1 HC.out.2.2.2.2) (fun hHeld => ?_)
          clear hK K
          try simp only [Act.put, List.setIfInBounds_toArray, List.set_cons_zero, List.set_cons_succ]
          refine wpAnyH_ready (rs := [13]) (by kernel_rfl) (by simp) ?_
          refine AllReadyH.cons (o := _) rfl (fun K hK => ?_) AllReadyH.nil
          refine step_add2 (by rfl) _ _ (by rfl) ua un uc _ st (.slice aa na ac) (by rfl) (by rfl) (HDW.out _ (by repeat (with_reducible first | exact Below.refl _ _ | refine Below.drew ?_ | refine below_alC ?_ _))).row (HDW.out _ (by repeat (with_reducible first | exact Below.refl _ _ | refine Below.drew ?_ | refine below_alC ?_ _))).blw (Nat.le_trans HNX.out.2.2 (by decide)) rfl HST.out.2.2.2 (by rw [← HST.out.1, ← HST.out.2.1, ← HST.out.2.2.1]; exact heap_new _ _) ?_
          intro va vc w5 hR5 hbw5 hkp5
          obtain ⟨hD5, hc5, hf5⟩ := Dbl.step (HDW.out _ (by repeat (with_reducible first | exact Below.refl _ _ | refine Below.drew ?_ | refine below_alC ?_ _))) hkp5 hR5.out hbw5
          have HD5 : Hid _ := hD5
          clear hD5
          refine hK.out _ _ (keep5S (by repeat (with_reducible first | assumption | exact HD.out.blw | refine Below.drew ?_ | refine below_alC ?_ _ | refine Below.setCell ?_ HD.out.low _)) HC.out.1 HC.out.2.1 HC.out.2.2.1 HC.out.2.2.2.1 HC.out.2.2.2.2) (fun hHeld => ?_)
          clear hK K
          try simp only [Act.put, List.setIfInBounds_toArray]
          refine wpAnyH_take (i := 14) (oi := _) (v := .pointer (some ⟨rb, 2, none⟩)) rfl (by kernel_rfl) (by kernel_rfl) (by kernel_rfl) (fun _ _ _ h => h) (Or.inl ⟨by rfl, ?_⟩) hHeld ?_
          · (intro w hSw; obtain ⟨hSw0, hSw1, hSw2, hSw3, hSw4, hSw5⟩ := hSw; go_simp)
          try simp only [Act.put]
          refine wpAnyH_ready (rs := [15]) (by kernel_rfl) (by simp) ?_
          refine AllReadyH.cons (o := _) rfl (fun K hK => ?_) AllReadyH.nil
          go_simp
          refine hK.out _ _ (keep5S (by repeat (with_reducible first | assumption | exact HD.out.blw | refine Below.drew ?_ | refine below_alC ?_ _ | refine Below.setCell ?_ HD.out.low _)) HC.out.1 HC.out.2.1 HC.out.2.2.1 HC.out.2.2.2.1 HC.out.2.2.2.2) (fun hHeld => ?_)
          clear hK K
          try simp only [Act.put, List.setIfInBounds_toArray, List.set_cons_zero, List.set_cons_succ]
          refine wpAnyH_done (by kernel_rfl) ?_ _
          refine NoPanic.normal ?_
          go_wp2_with fail
          go_roundw
          case rel => exact ⟨k, nb || D, va, _, vc, _, by omega, rfl, by go_num, HNX.out.1, by rw [HNX.out.2.1]; exact HD5.out⟩
          case measure => simp [intOf]
      · have hi0 : i = 0 := by omega
        subst hi0
        rw [List.drop_zero] at hnb hD
        rw [show ((0 : Nat) : Int) - 1 = -1 by omega]
        have HD : Hid (Dbl w7 wr rb n1 d1 n2 d2 b1 b2 ua un uc (dblS P.stmts) qs) := hD
        have r0 : wr.cell? ⟨rb, 0, none⟩ = some (.slice b1 n1 d1) := by rw [Lib.cell_of_heap hD.box]; rfl
        have r1 : wr.cell? ⟨rb, 1, none⟩ = some (.slice b2 n2 d2) := by rw [Lib.cell_of_heap hD.box]; rfl
        have HNB : Hid (nb = false → NoNew P) := fun q s hs e => by
          rw [hnb] at q
          have := List.any_eq_false.1 q s hs
          simp [e] at this
        clear hD hnb hi hlt
        go_upto_if 93 with fail
        go_cut [4] (fun s wx => s = .bool false ∧ Below w7.heap.size w7 wx)
        case first =>
          cases nb with
          | true =>
            go_wp2_with fail
            go_meet
            exact ⟨rfl, HD.out.blw⟩
          | false =>
            have KLr : Hid (Calls Tryz.prog 28 #[.agg #[.slice b1 n1 d1, .slice b2 n2 d2, .slice ua un uc]] wr fun e w' => ∃ va vc k, e = .returned (.tuple #[.slice va ln vc, .int .i64 k, .nilIface]) ∧ IsSets w' (.slice va ln vc) L ∧ Below wr.heap.size wr w') := by
              have hnn := HNB.out rfl
              have hl40 : P.stmts.length ≤ 40 := by have := HN.out.2.2.1; omega
              obtain ⟨q1, q2, q3, -, -⟩ := HQ6.out wr (H7.out wr HD.out.blw).1
              have hcd := check_dbl HLL.out.2.2.1 hl40
              have hIs : IsStmts wr (.slice ua un uc) (dblP P).stmts := HD.out.row.isStmts HD.out.blw
              refine (least_any a (dblP P) _ _ _ wr (HS.out.1.dbl (by omega)) ⟨q1.vars, q1.funs, hIs⟩ q2 q3).mono ?_
              rintro e w' ⟨va, vn, vc, ev, k, rfl, hcs, hb⟩
              rcases hcs with ⟨-, rfl, m2, rfl, hm2, hi⟩ | ⟨q, -, -, -⟩
              · rw [← dbl_least hnn HLL.out.2.2.1 hl40 HLL.out.2.2.2.1 hm2, ← HLL.out.1] at hi
                have hvn : vn = ln := by
                  obtain ⟨a', c', e', _⟩ := hi
                  injection e' with _ e2 _
                  rw [e2, HLL.out.2.1]
                subst hvn
                exact ⟨va, vc, _, rfl, hi, hb⟩
              · rw [hcd] at q; cases q
            go_wp2_with fail
            refine KLr.out.mono ?_
            rintro e w15 ⟨va, vc, k, rfl, hi15, hb15⟩
            have hB15 : Below w7.heap.size w7 w15 := HD.out.blw.trans (hb15.mono HD.out.blw.size)
            have KS : Hid (Calls Tryz.prog 32 #[.slice la ln lc, .slice va ln vc] w15 fun e w' => e = .returned (.bool true) ∧ Below w15.heap.size w15 w') := sameSets_true L _ _ w15 (H7.out w15 hB15).2 hi15 HLL.out.2.2.2.2.2.1 (fun j hj => by have := HLL.out.2.2.2.2.2.2.1 j hj; omega)
            clear KLr hi15 hb15
            go_wp2_with fail
            refine KS.out.mono ?_
            rintro e w16 ⟨rfl, hb16⟩
            have hB16 : Below w7.heap.size w7 w16 := hB15.trans (hb16.mono hB15.size)
            clear KS hb16
            go_wp2_with fail
            go_meet
            exact ⟨rfl, hB16⟩
        case rest =>
        obtain ⟨rfl, hBc⟩ := hcut
        have HBc : Hid (Below w7.heap.size w7 wc ∧ Below W6.heap.size W6 wc) := ⟨hBc, (H7.out wc hBc).1⟩
        obtain ⟨y0, y1, y2⟩ := XQ.out.below HBc.out.2
        have KO : Hid (Calls Tryz.prog 12 #[.agg #[.slice b1 n1 d1, .slice b2 n2 d2, .slice b3 n3 d3]] wc fun e w' => OwnPost P wc w' e) := ownProgram_st P _ _ _ wc HS.out.1 (HQ6.out wc HBc.out.2).1
        clear HD HNB r0 r1 z2 hBc
        go_wp2_with fail
        refine KO.out.mono ?_
        rintro e w19 ⟨m1, m2, m3, B, pb, ps, qs', rfl, hSt, hBle, hb19⟩
        clear KO y0 y1 y2
        obtain ⟨⟨e1, f1, rfl, -, -⟩, ⟨e2, f2, rfl, -, -⟩, ⟨e3, f3, rfl, -, -⟩⟩ := hSt.isProg
        rw [← HN.out.1, ← HN.out.2.1, ← HN.out.2.2.1] at hSt ⊢
        have HST : Hid (St w19 B pb P (.slice e1 n1 f1) (.slice e2 n2 f2) (.slice e3 n3 f3) ps qs' ∧ wc.heap.size ≤ B ∧ Below wc.heap.size wc w19) := ⟨hSt, hBle, hb19⟩
        clear hSt hBle hb19
        go_upto_region 20 with fail
        obtain ⟨W20, hW20⟩ : ∃ W, W = w19.alloc (.cells #[.slice e1 n1 f1, .slice e2 n2 f2, .slice e3 n3 f3] 26) := ⟨_, rfl⟩
        have hB20 : Below w19.heap.size w19 W20 := by rw [hW20]; exact below1 w19 _
        have hmb : W20.heap[w19.heap.size]? = some (.cells #[.slice e1 n1 f1, .slice e2 n2 f2, .slice e3 n3 f3] 26 (0, 0)) := by rw [hW20]; exact heap_new w19 _
        rw [← hW20]
        clear hW20
        obtain ⟨mb, hmbe⟩ : ∃ b, b = w19.heap.size := ⟨_, rfl⟩
        rw [← hmbe] at hmb ⊢
        have hBc20 : Below wc.heap.size wc W20 := HST.out.2.2.trans (hB20.mono HST.out.2.2.size)
        have h620 : Below W6.heap.size W6 W20 := HBc.out.2.trans (hBc20.mono HBc.out.2.size)
        have hx20 := block_keep (HQ6.out W20 h620).2.2.2.2 HXB.out.1
        have hXc : IsCap w (.slice xa xn xc) X.args := H.out.2.1
        obtain ⟨va, vc, w', hr, hbw, hkt, hPr⟩ := st_add (w0 := w) (HST.out.1.below hB20) (by have := HN.out.2.2.1; omega) X (.slice xa xn xc) rfl hXc
        rw [← HN.out.2.2.1, ← HXK.out.1, ← HXK.out.2.1, ← HXK.out.2.2] at hr
        rw [← HN.out.2.2.1] at hPr
        have hmb' := hkt _ _ _ _ hmb (by decide)
        have hxb' := hkt
        have hBc' : Below wc.heap.size wc w' := hBc20.trans (hbw.mono HST.out.2.1)
        have hBcS : Below wc.heap.size wc (w'.setCell ⟨mb, 2, none⟩ (.slice va (n3 + 1) vc)) := hBc'.setCell (by rw [hmbe]; exact HST.out.2.2.size) _
        have h6S : Below W6.heap.size W6 (w'.setCell ⟨mb, 2, none⟩ (.slice va (n3 + 1) vc)) := HBc.out.2.trans (hBcS.mono HBc.out.2.size)
        have HSX : Hid (∀ wS, wS = w'.setCell ⟨mb, 2, none⟩ (.slice va (n3 + 1) vc) → IsProg wS (.slice e1 n1 f1) (.slice e2 n2 f2) (.slice va (n3 + 1) vc) (addP P X) ∧ wS.heap[mb]? = some (.cells #[.slice e1 n1 f1, .slice e2 n2 f2, .slice va (n3 + 1) vc] 26 (0, 0)) ∧ Below W6.heap.size W6 wS ∧ Below w7.heap.size w7 wS) := fun wS hwS => by
          rw [hwS]
          refine ⟨hPr _ (kept_setCell hmb' _) (HQ6.out _ h6S).2.2.2.1, by rw [set_block _ _ _ _ _ _ hmb']; rfl, h6S, HBc.out.1.trans (hBcS.mono HBc.out.1.size)⟩
        have b2' : W20.cell? ⟨mb, 2, none⟩ = some (.slice e3 n3 f3) := by rw [Lib.cell_of_heap hmb]; rfl
        have b2w : w'.cell? ⟨mb, 2, none⟩ = some (.slice e3 n3 f3) := by rw [Lib.cell_of_heap hmb']; rfl
        have b2f : w'.frozen? ⟨mb, 2, none⟩ = false := Lib.frozen_of_heap hmb' 2
        have x0 : W20.cell? ⟨w.heap.size + 1, 0, none⟩ = some (.string xk) := by rw [Lib.cell_of_heap hx20]; rfl
        have x1 : W20.cell? ⟨w.heap.size + 1, 1, none⟩ = some (.int .i64 xx) := by rw [Lib.cell_of_heap hx20]; rfl
        have x2 : W20.cell? ⟨w.heap.size + 1, 2, none⟩ = some (.int .i64 xy) := by rw [Lib.cell_of_heap hx20]; rfl
        have x3 : W20.cell? ⟨w.heap.size + 1, 3, none⟩ = some (.slice xa xn xc) := by rw [Lib.cell_of_heap hx20]; rfl
        have HR : Hid _ := hr
        clear hr hbw hkt hPr hmb hmb' hxb' hBc' hBcS h6S hx20 hXc hB20 hBc20 h620 hmbe
        go_upto_region 21 with (at_builtin; refine Lib.wpList_append_run _ rfl _ _ _ _ rfl _ _ rfl rfl _ _ HR.out ?_)
        obtain ⟨wS, hwS⟩ : ∃ wS, wS = w'.setCell ⟨mb, 2, none⟩ (.slice va (n3 + 1) vc) := ⟨_, rfl⟩
        rw [← hwS]
        have HS' : Hid _ := HSX.out wS hwS
        clear hwS HSX HR b2' b2w b2f x0 x1 x2 x3
        have hxS := block_keep (HQ6.out wS HS'.out.2.2.1).2.2.2.2 HXB.out.1
        have x0 : wS.cell? ⟨w.heap.size + 1, 0, none⟩ = some (.string xk) := by rw [Lib.cell_of_heap hxS]; rfl
        have s0 : wS.cell? ⟨mb, 0, none⟩ = some (.slice e1 n1 f1) := by rw [Lib.cell_of_heap HS'.out.2.1]; rfl
        have s1 : wS.cell? ⟨mb, 1, none⟩ = some (.slice e2 n2 f2) := by rw [Lib.cell_of_heap HS'.out.2.1]; rfl
        have s2 : wS.cell? ⟨mb, 2, none⟩ = some (.slice va (n3 + 1) vc) := by rw [Lib.cell_of_heap HS'.out.2.1]; rfl
        have HSA : Hid (SmallP (addP P X)) := HS.out.1.add (by have := HN.out.2.2.1; omega) (by have := HN.out.2.2.2; omega)
        have HBw : Hid (∀ wx, Below wS.heap.size wS wx → Below w.heap.size w wx ∧ Below w7.heap.size w7 wx) := fun wx hb => ⟨(HQ6.out wx (HS'.out.2.2.1.trans (hb.mono HS'.out.2.2.1.size))).2.2.2.1, HS'.out.2.2.2.trans (hb.mono HS'.out.2.2.2.size)⟩
        have KCh : Hid (Calls Tryz.prog 35 #[.agg #[.slice e1 n1 f1, .slice e2 n2 f2, .slice va (n3 + 1) vc]] wS fun e w' => ∃ v', e = .returned v' ∧ ((checkE (addP P X) = none ∧ v' = .nilIface) ∨ ∃ t x, v' = .iface t (.pointer (some x))) ∧ Below wS.heap.size wS w') := by
          refine (check_any a (addP P X) _ _ _ wS HSA.out HS'.out.1 (HQ6.out wS HS'.out.2.2.1).2.1).mono ?_
          rintro e w' ⟨v', rfl, hv, hb⟩
          refine ⟨v', rfl, ?_, hb⟩
          rcases hv.cases with ⟨q1, q2⟩ | ⟨-, q2⟩
          · exact Or.inl ⟨Option.isNone_iff_eq_none.1 q1, q2⟩
          · exact Or.inr q2
        clear hxS
        cases XD with
        | true =>
          have HF := (HBw.out wS (Below.refl _ _)).1
          go_wp2_with fail
          go_ret
          exact ⟨rfl, HF⟩
        | false =>
        go_wp2_with fail
        refine KCh.out.mono ?_
        rintro e w21 ⟨v', rfl, hv, hb21⟩
        have HB21 : Hid (Below wS.heap.size wS w21) := hb21
        clear KCh hb21
        rcases hv with ⟨hca, rfl⟩ | ⟨t, x, rfl⟩
        case inr =>
          have HF := (HBw.out w21 HB21.out).1
          go_wp2_with fail
          go_ret
          exact ⟨rfl, HF⟩
        case inl =>
        replace s0 := cell_keep HB21.out s0
        replace s1 := cell_keep HB21.out s1
        replace s2 := cell_keep HB21.out s2
        have HXN : Hid (X.kind ≠ kNew) := fun e => by have := HXD.out; rw [e] at this; simp at this
        have KLm : Hid (Calls Tryz.prog 28 #[.agg #[.slice e1 n1 f1, .slice e2 n2 f2, .slice va (n3 + 1) vc]] w21 fun e w' => ∃ za zc k L', e = .returned (.tuple #[.slice za ln zc, .int .i64 k, .nilIface]) ∧ IsSets w' (.slice za ln zc) L' ∧ Sub L L' ∧ (∀ j, j < L'.length → (L'.getD j []).length ≤ 200) ∧ Below w21.heap.size w21 w') := by
          have h621 : Below W6.heap.size W6 w21 := HS'.out.2.2.1.trans (HB21.out.mono HS'.out.2.2.1.size)
          obtain ⟨-, q2, q3, -, -⟩ := HQ6.out w21 h621
          refine (least_any a (addP P X) _ _ _ w21 HSA.out (HS'.out.1.below HB21.out) q2 q3).mono ?_
          rintro e w' ⟨za, zn, zc, ev, k, rfl, hcs, hb⟩
          rcases hcs with ⟨-, rfl, m2, rfl, hm2, hi⟩ | ⟨q, -, -, -⟩
          · have hsub := add_least HXN.out hm2 m
            rw [← HLL.out.1] at hsub
            have hzn : zn = ln := by
              obtain ⟨a', c', e', _⟩ := hi
              injection e' with _ e2 _
              rw [e2, HLL.out.2.1, hsub.len]
            subst hzn
            exact ⟨za, zc, _, _, rfl, hi, hsub, (setsOk_iter hca m2).short hca, hb⟩
          · rw [hca] at q; cases q
        clear hca x0
        go_wp2_with fail
        refine KLm.out.mono ?_
        rintro e w23 ⟨za, zc, k, L', rfl, hi23, hsub, hsh, hb23⟩
        have HB23 : Hid (Below w.heap.size w w23 ∧ IsSets w23 (.slice la ln lc) L ∧ IsSets w23 (.slice za ln zc) L' ∧ Sub L L') := by
          have h1 := HB21.out.trans (hb23.mono HB21.out.size)
          exact ⟨(HBw.out w23 h1).1, (H7.out w23 (HBw.out w23 h1).2).2, hi23, hsub⟩
        have HW : Hid (∀ j, j < ln → ((L.getD j []).all fun x => (L'.getD j []).contains x) = true ∧ (L.getD j []).length ≤ 100000 ∧ (L'.getD j []).length ≤ 100000) := fun j hj => by
          refine ⟨List.all_eq_true.2 fun x hx => by simpa using hsub.mem j x hx, ?_, ?_⟩
          · have := HLL.out.2.2.2.2.2.2.1 j (by rw [← HLL.out.2.1]; exact hj); omega
          · have := hsh j (by rw [← hsub.len, ← HLL.out.2.1]; exact hj); omega
        have HSS : Hid (∀ wx, Below w23.heap.size w23 wx → ∀ j, j < ln → ∃ b o x b' o' x', la = some ⟨b, o, none⟩ ∧ wx.cell? ⟨b, o + j, none⟩ = some x ∧ za = some ⟨b', o', none⟩ ∧ wx.cell? ⟨b', o' + j, none⟩ = some x' ∧ IsInts wx x (L.getD j []) ∧ IsInts wx x' (L'.getD j [])) := fun wx hb j hj => by
          obtain ⟨a1', c1', e1', r1⟩ := HB23.out.2.1
          obtain ⟨a2', c2', e2', r2⟩ := HB23.out.2.2.1
          injection e1' with p1 p2 p3
          injection e2' with p4 p5 p6
          obtain ⟨b, o, x, q1, q2, q3⟩ := r1 j (by rw [← HLL.out.2.1]; exact hj)
          obtain ⟨b', o', x', q4, q5, q6⟩ := r2 j (by rw [← HB23.out.2.2.2.len, ← HLL.out.2.1]; exact hj)
          exact ⟨b, o, x, b', o', x', by rw [p1, q1], cell_keep hb q2, by rw [p4, q4], cell_keep hb q5, q3.below hb, q6.below hb⟩
        have hln6 : ln ≤ 1000000 := by rw [HLL.out.2.1]; exact HLL.out.2.2.2.2.2.1
        clear KLm hi23 hsub hsh hb23 s0 s1 s2
        go_wp2_with fail
        go_loopw [19] (fun t wr => ∃ k : Nat, k ≤ ln ∧ t = .int .i64 k ∧ Below w23.heap.size w23 wr) (fun t _ => (ln - intOf t).toNat)
        case atStart => exact ⟨0, Nat.zero_le _, rfl, Below.refl _ _⟩
        case round =>
          obtain ⟨k, hk, rfl, hwr⟩ := hrel
          by_cases hlt : k < ln
          · obtain ⟨b, o, x, b', o', x', rfl, e0, rfl, f0, hx, hx'⟩ := HSS.out _ hwr k hlt
            have hki : (k : Int) < ln := by omega
            have KI : ∀ d os, Calls Tryz.prog 34 #[x, x'] (Go.Sort.grow (redrawn wr d) os) fun e w'' => e = .returned (.bool true) ∧ ∃ p : Regrown, w'' = Go.Sort.grow (redrawn wr p.d) p.os := fun d os => by
              have := within_any (L.getD k []) (L'.getD k []) x x' (Go.Sort.grow (redrawn wr d) os) (HW.out k hlt).2.1 (HW.out k hlt).2.2 (hx.below (below_regrown wr d os)) (hx'.below (below_regrown wr d os))
              rw [(HW.out k hlt).1] at this
              exact Calls.regrown_of this
            have E0 := cell_regrown e0
            have F0 := cell_regrown f0
            clear hx hx' e0 f0
            go_upto_region 29 with fail
            refine wp_region_quiet_below (by kernel_rfl) (by kernel_rfl) ?_
            repeat (quiet_step (first | exact KI _ _))
            refine wpQuiet_nil ?_
            intro _ hw'
            obtain ⟨⟨dq, osq⟩, hw''⟩ := hw'
            subst hw''
            have hBQ : Below w23.heap.size w23 (Go.Sort.grow (redrawn wr dq) osq) := hwr.trans ((below_regrown wr dq osq).mono hwr.size)
            clear KI E0 F0
            go_wp2_with fail
            go_roundw
            case rel => exact ⟨k + 1, hlt, by go_num, hBQ⟩
            case measure => simp [intOf]; omega
          · have HBF : Hid (Below w.heap.size w wr) := HB23.out.1.trans (hwr.mono HB23.out.1.size)
            clear hwr
            go_wp2_with fail
            go_ret
            exact ⟨rfl, HBF.out⟩
end Go.Proofs.YtimmkenmahagjaaGreatDoor
