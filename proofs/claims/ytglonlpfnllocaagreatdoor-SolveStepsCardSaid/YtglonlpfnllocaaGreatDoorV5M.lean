/-
  Package solve in memory: the place of a number in a set; plain: the states on the way of a fact that comes.
-/
import Derived.Test.YtglonlpfnllocaaGreatDoorVUM
import Derived.Test.YtglonlpfnllocaaGreatDoorVOM
import Derived.Test.YtglonlpfnllocaaGreatDoorShelf
import Derived.Test.YtglonlpfnllocaaGreatDoorDKM
import Derived.Test.YtglonlpfnllocaaGreatDoorVTM
import Derived.Deep.RegionHeld3
import Derived.Test.YtglonlpfnllocaaGreatDoorV1M
namespace Go.Proofs.YtglonlpfnllocaaGreatDoor
open Go.RowKit Go.Extern.Stop Go.Stop Go.Extern Go.Maps

theorem search_any (zs : List Int) (v : Value) (x : Int) (w : World) (hm : zs.length ≤ 1000000) (h : IsInts w v zs) (hs : zs.Pairwise (· ≤ ·)) :
    Calls Tryz.prog 79 #[v, .int .i64 x] w fun e w' => e = .returned (.tuple #[.int .i64 (zs.countP (· < x) : Nat), .bool (zs.contains x)]) ∧ ∃ q, w' = w.drewN q := by
  rcases h with ⟨hz, a, c, rfl⟩ | ⟨hz, b, o, c, rfl, hc⟩
  · subst hz
    refine (Tryz.slices_BinarySearch_int_empty a c x w).mono ?_
    rintro e w' ⟨rfl, rfl⟩
    exact ⟨rfl, 0, rfl⟩
  · have := Tryz.slices_BinarySearch_int b o zs.length c zs x w (Nat.le_refl _) (by omega) hc (by rw [List.take_length]; exact hs)
    rw [List.take_length] at this
    exact this
/-- The state behind the first k of the edges that lead on. -/
def eK (s : SolD) (es : List Int) (o : Int) (k : Nat) : SolD := ((es.take k).map fun t => (t, o)).foldl SolD.await s
theorem eK_next (s : SolD) (es : List Int) (o : Int) (k : Nat) (hk : k < es.length) : eK s es o (k + 1) = (eK s es o k).await (es.getD k 0, o) := by
  unfold eK
  rw [List.take_succ_eq_append_getElem hk, List.map_append, List.foldl_append]
  simp [List.getD, hk]
theorem eK_all (s : SolD) (es : List Int) (o : Int) : eK s es o es.length = (es.map fun t => (t, o)).foldl SolD.await s := by unfold eK; rw [List.take_length]
theorem awaits_has (l : List Fact) : ∀ s : SolD, (l.foldl SolD.await s).has = s.has ∧ (l.foldl SolD.await s).rules = s.rules ∧ (l.foldl SolD.await s).edges = s.edges := by
  induction l with
  | nil => exact fun s => ⟨rfl, rfl, rfl⟩
  | cons f l ih =>
    intro s
    rw [List.foldl_cons, (ih _).1, (ih _).2.1, (ih _).2.2, await_has, await_rules, await_edges]
    exact ⟨rfl, rfl, rfl⟩
/-- The state behind the first k of the rules that ask. -/
def rK (n : Nat) (fs : List FunD) (rs : List RuleD) (o : Int) (s : SolD) (k : Nat) : SolD := ((rs.take k).flatMap fun r => joinD n fs r o).foldl SolD.join s
theorem rK_next (n : Nat) (fs : List FunD) (rs : List RuleD) (o : Int) (s : SolD) (k : Nat) (hk : k < rs.length) : rK n fs rs o s (k + 1) = (joinD n fs (rs.getD k default) o).foldl SolD.join (rK n fs rs o s k) := by
  unfold rK
  rw [List.take_succ_eq_append_getElem hk, List.flatMap_append, List.flatMap_singleton, List.foldl_append]
  simp [List.getD, hk]
theorem rK_all (n : Nat) (fs : List FunD) (rs : List RuleD) (o : Int) (s : SolD) : rK n fs rs o s rs.length = (rs.flatMap fun r => joinD n fs r o).foldl SolD.join s := by unfold rK; rw [List.take_length]
/-- A fact that comes, ahead of what follows from it. -/
theorem come1_eq {s : SolD} {X d : Nat} {o : Int} (hd : s.due.length = d + 1) (hl : s.due.getD d default = ((X : Int), o)) : s.come1 = { s with due := s.due.take d, has := s.has.set X (insD (s.has.getD X []) o) } ∧ s.due.getLastD (0, 0) = ((X : Int), o) := by
  have h2 : s.due.getLastD (0, 0) = ((X : Int), o) := by
    rw [← hl, List.getLastD_eq_getLast?, List.getLast?_eq_getElem?, hd]
    have : d < s.due.length := by omega
    simp [List.getD, this]
  refine ⟨?_, h2⟩
  unfold SolD.come1
  rw [h2, List.dropLast_eq_take, hd]
  simp [setAt]
end Go.Proofs.YtglonlpfnllocaaGreatDoor

/-
  slices.Insert of one number, at a row of one's own.
-/
namespace Go.Proofs.YtglonlpfnllocaaGreatDoor
open Go.RowKit Go.Extern.Stop Go.Stop Go.Extern

def setR : List Value → Nat → List Value → List Value
  | l, _, [] => l
  | l, o, v :: r => setR (l.set o v) (o + 1) r
theorem setR_eq (vs : List Value) : ∀ (l : List Value) (o : Nat), o + vs.length ≤ l.length → setR l o vs = l.take o ++ vs ++ l.drop (o + vs.length) := by
  induction vs with
  | nil => intro l o _; simp [setR]
  | cons v r ih =>
    intro l o h
    rw [List.length_cons] at h
    have ho : o < l.length := by omega
    show setR (l.set o v) (o + 1) r = _
    rw [ih _ _ (by rw [List.length_set]; omega)]
    have h1 : (l.set o v).take (o + 1) = l.take o ++ [v] := by
      rw [List.set_eq_take_append_cons_drop, if_pos ho, List.take_append, List.length_take, Nat.min_eq_left (by omega), Nat.add_sub_cancel_left, List.take_take, Nat.min_eq_right (by omega)]
      rfl
    have h2 : (l.set o v).drop (o + 1 + r.length) = l.drop (o + (r.length + 1)) := by
      rw [List.drop_set_of_lt (by omega)]
      congr 1
      omega
    rw [h1, h2, List.length_cons]
    simp
theorem setR_len (vs : List Value) : ∀ (l : List Value) (o : Nat), (setR l o vs).length = l.length := by
  induction vs with
  | nil => exact fun l o => rfl
  | cons v r ih => exact fun l o => by show (setR (l.set o v) (o + 1) r).length = _; rw [ih, List.length_set]
theorem setR_shift {l zs : List Value} {i : Nat} (x : Value) (hi : i ≤ zs.length) (hl : zs.length + 1 ≤ l.length) (ht : l.take zs.length = zs) : (setR (setR l (i + 1) (zs.drop i)) i [x]).take (zs.length + 1) = zs.take i ++ [x] ++ zs.drop i := by
  have hd : (zs.drop i).length = zs.length - i := List.length_drop ..
  have h1 := setR_eq (zs.drop i) l (i + 1) (by omega)
  have h2 := setR_eq [x] (setR l (i + 1) (zs.drop i)) i (by rw [setR_len, List.length_singleton]; omega)
  have hti : l.take i = zs.take i := by rw [← ht, List.take_take, Nat.min_eq_left hi]
  have htl : (l.take (i + 1)).length = i + 1 := by rw [List.length_take]; omega
  have h3 : (setR l (i + 1) (zs.drop i)).take i = zs.take i := by
    rw [h1, List.append_assoc, List.take_append_of_le_length (by omega), List.take_take, Nat.min_eq_left (by omega), hti]
  have h4 : (setR l (i + 1) (zs.drop i)).drop (i + 1) = zs.drop i ++ l.drop (i + 1 + (zs.drop i).length) := by
    rw [h1, List.append_assoc, List.drop_append_of_le_length (by omega), List.drop_of_length_le (by omega)]
    rfl
  rw [h2, List.length_singleton, h3, h4, ← List.append_assoc, List.take_append_of_le_length (by simp; omega), List.take_of_length_le (by simp; omega)]
theorem setR_grow {l zs : List Value} {i : Nat} (x : Value) (hi : i ≤ zs.length) (hl : zs.length + 1 ≤ l.length) (ht : l.take i = zs.take i) : (setR (setR l i [x]) (i + 1) (zs.drop i)).take (zs.length + 1) = zs.take i ++ [x] ++ zs.drop i := by
  have hd : (zs.drop i).length = zs.length - i := List.length_drop ..
  have h1 := setR_eq [x] l i (by rw [List.length_singleton]; omega)
  have h2 := setR_eq (zs.drop i) (setR l i [x]) (i + 1) (by rw [setR_len]; omega)
  have hz : (zs.take i).length = i := by rw [List.length_take]; omega
  have h3 : (setR l i [x]).take (i + 1) = zs.take i ++ [x] := by
    rw [h1, ht, List.take_append_of_le_length (by simp; omega), List.take_of_length_le (by simp; omega)]
  rw [h2, h3, List.take_append_of_le_length (by simp; omega), List.take_of_length_le (by simp; omega)]
theorem setCells_heap (vs : List Value) : ∀ (w : World) (b o : Nat) (cs : Array Value) (T : TypeId) (fr : Nat × Nat), w.heap[b]? = some (.cells cs T fr) → (w.setCells b o vs).heap[b]? = some (.cells (setR cs.toList o vs).toArray T fr) := by
  induction vs with
  | nil => intro w b o cs T fr h; exact h
  | cons v r ih =>
    intro w b o cs T fr h
    have := ih (w.setCell ⟨b, o, none⟩ v) b (o + 1) _ T fr (set_block w b o cs T fr h v)
    rw [Array.toList_setIfInBounds] at this
    exact this
theorem setCells_but (vs : List Value) : ∀ (w : World) (b o : Nat), KeepBut w (w.setCells b o vs) (some b) := by
  induction vs with
  | nil => exact fun w b o => fun _ _ q _ => q
  | cons v r ih =>
    intro w b o
    refine KeepBut.trans (fun k ob q hne => ?_) (ih (w.setCell ⟨b, o, none⟩ v) b (o + 1))
    have : b ≠ k := fun e => hne (by rw [e])
    simpa [World.setCell, Array.getElem?_modify, this] using q
theorem setCells_below (vs : List Value) : ∀ (w w1 : World) (B b o : Nat), B ≤ b → Below B w w1 → Below B w (w1.setCells b o vs) := by
  induction vs with
  | nil => exact fun w w1 B b o _ h => h
  | cons v r ih => exact fun w w1 B b o hb h => ih w _ B b (o + 1) hb (h.setCell hb v)

/-- What slices.Insert leaves: the row, a number longer, and all else as it was. -/
def InsPost (w : World) (B : Nat) (v : Value) (zs : List Int) (i : Nat) (x : Int) (e : Ending) (w' : World) : Prop :=
  ∃ a c, e = .returned (.slice a (zs.length + 1) c) ∧ w'.ownsRow B 3 1 (.slice a (zs.length + 1) c) (zs.length + 1) ((zs.take i ++ x :: zs.drop i).map intV) ∧ KeepBut w w' v.ownBlock ∧ Below B w w' ∧
    ((Value.slice a (zs.length + 1) c).ownBlock = v.ownBlock ∨ ∀ g', (Value.slice a (zs.length + 1) c).ownBlock = some g' → w.heap.size ≤ g')
theorem ins_map (zs : List Int) (i : Nat) (x : Int) : (zs.take i ++ x :: zs.drop i).map intV = (zs.map intV).take i ++ [intV x] ++ (zs.map intV).drop i := by simp
theorem ints_one {zs : List Int} : ∀ v ∈ zs.map intV, v.oneCell' = true := fun v hv => by
  obtain ⟨z, _, rfl⟩ := List.mem_map.1 hv
  rfl
theorem insert_any (w : World) (B : Nat) (v : Value) (zs : List Int) (hown : w.ownsRow B 3 1 v zs.length (zs.map intV)) (hB : B ≤ w.heap.size) (hn : zs.length ≤ 1000000) (i : Nat) (hi : i ≤ zs.length) (x : Int) (vb : Nat)
    (hvb : w.heap[vb]? = some (.cells #[.int .i64 x] 3 (0, 0))) (hne : v.ownBlock ≠ some vb) :
    Calls Tryz.prog 80 #[v, .int .i64 i, .slice (some ⟨vb, 0, none⟩) 1 1] w fun e w' => InsPost w B v zs i x e w' := by
  have L := Tryz.laysNm221
  have hvs : ∀ j u, ([intV x] : List Value)[j]? = some u → w.cell? ⟨vb, 0 + j, none⟩ = some u := fun j u hj => by
    cases j with
    | zero => rw [Lib.cell_of_heap hvb]; exact hj
    | succ j => simp at hj
  have h1v : ∀ u ∈ ([intV x] : List Value), u.oneCell' = true := fun u hu => by rw [List.mem_singleton.1 hu]; rfl
  have hvlt := (Array.getElem?_eq_some_iff.1 hvb).1
  -- a new row
  have fresh : ∀ (w1 : World) (cur : Array Value) (cap : Nat), zs.length + 1 ≤ cap → cap ≤ maxLen → cur.size = cap → cur.toList.take (zs.length + 1) = (zs.take i ++ x :: zs.drop i).map intV → w1.heap[w.heap.size]? = some (.cells cur 3 (0, 0)) → Below w.heap.size w w1 → InsPost w B v zs i x (.returned (.slice (some ⟨w.heap.size, 0, none⟩) (zs.length + 1) cap)) w1 := fun w1 cur cap h1 h2 h3 h4 h5 h6 => by
    refine ⟨_, _, rfl, ⟨by simp; omega, Or.inr ⟨w.heap.size, cap, cur, rfl, hB, h5, h1, h2, by omega, by rw [Nat.mul_one]; exact h4⟩⟩, KeepBut.of_below h6 _, ⟨h6.os, h6.tape, h6.output, h6.size, fun k hk => h6.block k (Nat.lt_of_lt_of_le hk hB)⟩, Or.inr fun g' hg => ?_⟩
    have : w.heap.size = g' := by simpa [Value.ownBlock] using hg
    omega
  have hml : zs.length + 1 ≤ maxLen := by unfold maxLen; omega
  rcases hown.2 with ⟨rfl, h0⟩ | ⟨g, cap, cur, rfl, hg, hh, hnc, hcm, hcs, htk⟩
  · obtain rfl : zs = [] := List.length_eq_zero_iff.1 h0
    obtain rfl : i = 0 := by simpa using hi
    refine (Any2.slices_Insert_int_end_grow L none 0 0 vb 0 1 1 [] [intV x] w (by decide) (Nat.le_refl _) (by decide) (by decide) rfl rfl (fun _ => rfl) (fun a e => by cases e) hvs h1v).mono fun e w' he => ?_
    obtain ⟨G, hG⟩ : ∃ G, G = grownCap w 1 0 3 := ⟨_, rfl⟩
    have he1 : e = .returned (.slice (some ⟨w.heap.size, 0, none⟩) (0 + 1) G) := by rw [hG]; exact he.1
    have he2 : w' = w.drew.alloc (.cells (([] ++ [intV x]).toArray ++ Builtin.zeroCells (Value.int .i64 0).cells (G - 1)) 3) := by rw [hG]; exact he.2
    have hge : 1 ≤ G := by rw [hG]; exact grownCap_ge w 1 0 3
    have hle : G ≤ maxLen := by rw [hG]; exact grownCap_le_maxLen w 1 0 3 (by decide)
    clear he hG
    subst he1 he2
    refine fresh _ _ _ hge hle ?_ ?_ (heap_new w.drew _) ((Below.refl _ w).drew.alloc (Nat.le_refl _) _)
    · simp [Builtin.zeroCells, Value.cells]
      omega
    · simp
  · rw [Nat.mul_one] at hcs htk
    have hcell : ∀ j, w.cell? ⟨g, 0 + j, none⟩ = cur[j]? := fun j => by rw [Nat.zero_add, Lib.cell_of_heap hh]
    have hcsv : ∀ j u, (zs.map intV)[j]? = some u → w.cell? ⟨g, 0 + j, none⟩ = some u := fun j u hj => by
      rw [hcell]
      rw [← htk, List.getElem?_take] at hj
      split at hj
      · simpa using hj
      · cases hj
    have hvg : vb ≠ g := fun e => hne (by rw [e]; rfl)
    have hgl := (Array.getElem?_eq_some_iff.1 hh).1
    have hlm : (zs.map intV).length = zs.length := List.length_map ..
    have htk' : cur.toList.take (zs.map intV).length = zs.map intV := by rw [hlm]; exact htk
    have hfz : ∀ (b k : Nat) (cs : Array Value) (t : TypeId), w.heap[b]? = some (.cells cs t (0, 0)) → w.frozen? ⟨b, k, none⟩ = false := fun b k cs t h => Lib.frozen_of_heap h k
    -- the old row
    have old : ∀ (w1 : World) (l : List Value), l.length = cap → l.take (zs.length + 1) = (zs.take i ++ x :: zs.drop i).map intV → zs.length + 1 ≤ cap → w1.heap[g]? = some (.cells l.toArray 3 (0, 0)) → KeepBut w w1 (some g) → Below B w w1 → InsPost w B (.slice (some ⟨g, 0, none⟩) zs.length cap) zs i x (.returned (.slice (some ⟨g, 0, none⟩) (zs.length + 1) cap)) w1 := fun w1 l h1 h2 h3 h4 h5 h6 =>
      ⟨_, _, rfl, ⟨by simp; omega, Or.inr ⟨g, cap, l.toArray, rfl, hg, h4, h3, hcm, by rw [Nat.mul_one]; exact h1, by rw [Nat.mul_one]; exact h2⟩⟩, h5, h6, Or.inl rfl⟩
    by_cases hroom : zs.length + 1 ≤ cap
    · have hcl : cur.toList.length = cap := by rw [Array.length_toList]; exact hcs
      have hsp : ∀ j, j < zs.length + 1 → (w.cell? ⟨g, 0 + j, none⟩).isSome = true := fun j hj => by
        rw [hcell, Array.getElem?_eq_getElem (by omega)]
        rfl
      by_cases hin : i < zs.length
      · refine (Any2.slices_Insert_int_shift L g 0 zs.length cap i vb 0 1 1 (zs.map intV) [intV x] w hin (by decide) hroom (by unfold maxLen at hcm; omega) hvg hlm rfl hcsv hsp (fun j _ => hfz g _ cur _ hh) hvs ints_one h1v 3 3 1 cap (by unfold World.shape?; rw [hvb]; rfl) (by unfold World.shape?; rw [hh]; show some (_, cur.size) = _; rw [hcs]) (by omega) (hfz vb _ _ _ hvb) (hfz vb _ _ _ hvb)).mono fun e w' he => ?_
        obtain ⟨rfl, rfl⟩ := he
        simp only [Nat.zero_add]
        have h1 := setCells_heap ((zs.map intV).drop i) w.drew g (i + 1) cur 3 (0, 0) hh
        have h2 := setCells_heap [intV x] _ g i _ 3 (0, 0) h1
        have hs := setR_shift (l := cur.toList) (zs := zs.map intV) (i := i) (intV x) (by omega) (by omega) htk'
        rw [hlm] at hs
        refine old _ _ ?_ ?_ hroom h2 (KeepBut.trans (setCells_but _ w.drew g (i + 1)) (setCells_but _ _ g i)) (setCells_below _ _ _ _ _ _ hg (setCells_below _ _ w.drew _ _ _ hg (Below.refl _ w).drew))
        · rw [setR_len, List.toList_toArray, setR_len]; exact hcl
        · rw [ins_map]; exact hs
      · obtain rfl : i = zs.length := by omega
        refine (Any2.slices_Insert_int_end_room L g 0 zs.length cap vb 0 1 1 [intV x] w (by decide) hroom (by unfold maxLen at hcm; omega) rfl (fun j hj => by have := hsp (zs.length + j) (by omega); rw [← Nat.add_assoc] at this; exact this) (fun j _ => hfz g _ cur _ hh) hvs h1v).mono fun e w' he => ?_
        obtain ⟨rfl, rfl⟩ := he
        simp only [Nat.zero_add]
        have h2 := setCells_heap [intV x] w g zs.length cur 3 (0, 0) hh
        have hs := setR_shift (l := cur.toList) (zs := zs.map intV) (i := zs.length) (intV x) (by omega) (by omega) htk'
        rw [List.drop_of_length_le (by omega), hlm] at hs
        refine old _ _ ?_ ?_ hroom h2 (setCells_but _ w g _) (setCells_below _ _ w _ _ _ hg (Below.refl _ w))
        · rw [setR_len]; exact hcl
        · rw [ins_map, List.drop_of_length_le (by omega)]; exact hs
    · have hlt : cap < zs.length + 1 := by omega
      have hge := grownCap_ge w (zs.length + 1) cap 3
      have hle := grownCap_le_maxLen w (zs.length + 1) cap 3 hml
      by_cases hin : i < zs.length
      · refine (Any2.slices_Insert_int_grow L g 0 zs.length cap i vb 0 1 1 (zs.map intV) [intV x] w hin (by decide) hnc hlt (by omega) hlm rfl hcsv hvs ints_one h1v).mono fun e w' he => ?_
        obtain ⟨rfl, rfl⟩ := he
        obtain ⟨A, hA⟩ : ∃ A : Array Value, A = (((zs.map intV).take i).toArray ++ Builtin.zeroCells (Value.int .i64 0).cells (zs.length + 1 - i) ++ Builtin.zeroCells (Value.int .i64 0).cells (grownCap w (zs.length + 1) cap 3 - (zs.length + 1))) := ⟨_, rfl⟩
        have hAl : A.toList.length = grownCap w (zs.length + 1) cap 3 := by
          rw [hA]
          simp [Builtin.zeroCells, Value.cells]
          omega
        have hAt : A.toList.take i = (zs.map intV).take i := by
          rw [hA]
          simp only [Array.toList_append, List.append_assoc]
          rw [List.take_append_of_le_length (by simp; omega), List.take_of_length_le (by simp; omega)]
        have h0 : (w.alloc (.cells A 3)).drew.heap[w.heap.size]? = some (.cells A 3 (0, 0)) := heap_new w _
        have h1 := setCells_heap [intV x] _ w.heap.size i A 3 (0, 0) h0
        have h2 := setCells_heap ((zs.map intV).drop i) ((w.alloc (.cells A 3)).drew.setCells w.heap.size i [intV x]).drew w.heap.size (i + 1) _ 3 (0, 0) h1
        have hs := setR_grow (l := A.toList) (zs := zs.map intV) (i := i) (intV x) (by omega) (by omega) hAt
        rw [hlm] at hs
        have hb : Below w.heap.size w (((w.alloc (.cells A 3)).drew.setCells w.heap.size i [intV x]).drew.setCells w.heap.size (i + 1) ((zs.map intV).drop i)) :=
          setCells_below _ _ _ _ _ _ (Nat.le_refl _) (setCells_below _ _ _ _ _ _ (Nat.le_refl _) ((Below.refl _ w).alloc (Nat.le_refl _) _).drew).drew
        have hfin := fresh _ _ _ hge hle ?_ ?_ h2 hb
        · rw [hA] at hfin
          exact hfin
        · rw [List.size_toArray, setR_len, List.toList_toArray, setR_len]; exact hAl
        · rw [ins_map, List.toList_toArray]; exact hs
      · obtain rfl : i = zs.length := by omega
        refine (Any2.slices_Insert_int_end_grow L (some ⟨g, 0, none⟩) zs.length cap vb 0 1 1 (zs.map intV) [intV x] w (by decide) hnc hlt (by omega) hlm rfl (fun e => by cases e) (fun a e j u hj => by
          injection e with e
          subst e
          rw [Addr.add_lit]
          exact hcsv j u hj) hvs h1v).mono fun e w' he => ?_
        obtain ⟨G, hG⟩ : ∃ G, G = grownCap w (zs.length + 1) cap 3 := ⟨_, rfl⟩
        rw [← hG] at hge hle
        have he1 : e = .returned (.slice (some ⟨w.heap.size, 0, none⟩) (zs.length + 1) G) := by rw [hG]; exact he.1
        have he2 : w' = w.drew.alloc (.cells ((zs.map intV ++ [intV x]).toArray ++ Builtin.zeroCells (Value.int .i64 0).cells (G - (zs.length + 1))) 3) := by rw [hG]; exact he.2
        clear he hG
        subst he1 he2
        refine fresh _ _ _ hge hle ?_ ?_ (heap_new w.drew _) ((Below.refl _ w).drew.alloc (Nat.le_refl _) _)
        · simp [Builtin.zeroCells, Value.cells]
          omega
        · rw [ins_map, List.drop_of_length_le (by omega), Array.toList_append, List.append_nil, List.take_of_length_le (l := zs.map intV) (by omega), List.take_append_of_le_length (by simp), List.take_of_length_le (by simp)]
end Go.Proofs.YtglonlpfnllocaaGreatDoor

/-
  Package solve in memory: a fact comes.
-/
namespace Go.Proofs.YtglonlpfnllocaaGreatDoor
open Go.RowKit Go.Extern.Stop Go.Stop Go.Extern Go.Maps

theorem rcells_at (rs : List RuleD) (avs : List Value) (j i : Nat) (hj : j < rs.length) (hi : i < 5) : (rcells rs avs)[j * 5 + i]? = (ruleCellsV (rs.getD j default) (avs.getD j .nilIface))[i]? := by
  unfold rcells
  exact flatten_at _ 5 (fun l hl => by obtain ⟨_, _, rfl⟩ := List.mem_map.1 hl; rfl) j i _ (by simp [hj]) hi
/-- What it wants that a fact comes. -/
structure ComeOk (fs : List FunD) (m : SolB) (s : SolD) (n X d : Nat) (o : Int) : Prop where
  size : n = s.has.length
  few : n ≤ 100000
  dl : s.due.length = d + 1
  last : s.due.getD d default = ((X : Int), o)
  lt : X < s.has.length
  obj : 0 ≤ o ∧ o ≤ 1000000
  dmax : s.due.length ≤ 1000000
  row : (s.has.getD X []).Pairwise (· < ·)
  rowl : (s.has.getD X []).length ≤ 999
  es : ∀ t ∈ s.edges (X : Int), okI t
  esl : (s.edges (X : Int)).length ≤ 1000000
  dues : ∀ k, k ≤ (s.edges (X : Int)).length → (eK s.come1 (s.edges (X : Int)) o k).due.length ≤ 1000000
  rsl : (s.rules (X : Int)).length ≤ 1000
  call : ∀ r ∈ s.rules (X : Int), r.kind = kCall → ¬ o < (n : Int) → (o - n).toNat < fs.length
  fp : ∀ i, i < fs.length → (fs.getD i default).params.length ≤ 1000
  args : ∀ r ∈ s.rules (X : Int), r.args.length ≤ 1000000
  kn : m.kn + 1002000000000 + 1002000000 < maxLen
  en : m.en + 1002000 + 1002 < maxLen
  jo : ∀ k, k < (s.rules (X : Int)).length → ∀ j, j < (joinD n fs ((s.rules (X : Int)).getD k default) o).length → JoinOk (jK (rK n fs (s.rules (X : Int)) o (eK s.come1 (s.edges (X : Int)) o (s.edges (X : Int)).length) k) (joinD n fs ((s.rules (X : Int)).getD k default) o) j) ((joinD n fs ((s.rules (X : Int)).getD k default) o).getD j default)

/-- What stands when the fact is in its set. -/
def CameIn (w : World) (B sb : Nat) (fs : List FunD) (m : SolB) (s : SolD) (bx : Nat) (X : Nat) (o : Int) (wx : World) : Prop :=
  ∃ m', SolM wx B sb fs m' s.come1 ∧ SolStepR w wx sb m m' s s.come1 ∧ m'.kn = m.kn ∧ m'.en = m.en ∧ m'.rn = m.rn ∧ m'.g = m.g ∧ m'.hc = m.hc ∧ m'.ra = m.ra ∧ m'.rv = m.rv ∧ wx.heap[bx]? = some (.cells #[.int .i64 (X : Int), .int .i64 o] TFa (0, 0)) ∧ ¬ OwnB sb m' s.come1 bx

set_option maxRecDepth 100000 in
set_option maxHeartbeats 32000000 in
theorem comeS_any {w : World} {B sb : Nat} {fs : List FunD} {m : SolB} {s : SolD} (h : SolM w B sb fs m s) (hF : FunsK w sb fs m s) (n X d : Nat) (o : Int) (hC : ComeOk fs m s n X d o) :
    Calls Tryz.prog 38 #[.pointer (some ⟨sb, 0, none⟩)] w fun e w' => e = .returned (.tuple #[]) ∧ ObeyPost w B sb fs m s (s.come n fs) w' := by
  obtain ⟨nd, hnd⟩ : ∃ nd, nd = d + 1 := ⟨_, rfl⟩
  have hdl := hC.dl
  rw [← hnd] at hdl
  have hdue := h.due
  rw [hdl] at hdue
  have hsb := h.blk
  rw [hdl] at hsb
  obtain ⟨g, cap, cur, hv, hgB, hh, hnc, hcm, hcs, htk⟩ : ∃ g cap cur, (Value.slice m.da nd m.dc) = .slice (some ⟨g, 0, none⟩) nd cap ∧ B ≤ g ∧ w.heap[g]? = some (.cells cur TFa (0, 0)) ∧ nd ≤ cap ∧ cap ≤ maxLen ∧ cur.size = cap * 2 ∧ cur.toList.take (nd * 2) = ecells s.due := by
    rcases hdue.2 with ⟨_, q⟩ | q
    · have := hdue.1
      omega
    · exact q
  injection hv with hda _ hdc
  have hcl : ∀ j, j < nd * 2 → cur[j]? = (ecells s.due)[j]? := fun j hj => by
    rw [← htk, List.getElem?_take, if_pos hj]
    simp
  have hc0 : w.cell? ⟨g, d * 2, none⟩ = some (.int .i64 (X : Int)) := by
    rw [Lib.cell_of_heap hh, hcl _ (by omega), (ecells_at s.due d (by omega)).1, hC.last]
  have hc1 : w.cell? ⟨g, d * 2 + 1, none⟩ = some (.int .i64 o) := by
    rw [Lib.cell_of_heap hh, hcl _ (by omega), (ecells_at s.due d (by omega)).2, hC.last]
  have t4 : w.cell? ⟨sb, 4, none⟩ = some (.slice (some ⟨g, 0, none⟩) nd cap) := by rw [Lib.cell_of_heap hsb, ← hda, ← hdc]; rfl
  obtain ⟨W, hW⟩ : ∃ W, W = w.alloc (.cells #[.int .i64 (X : Int), .int .i64 o] TFa) := ⟨_, rfl⟩
  have hBW : Below w.heap.size w W := by rw [hW]; exact below1 w _
  have hM1 := h.below hBW
  obtain ⟨hM2, hS2⟩ := hM1.pop d (by omega)
  have hbW : W.heap[w.heap.size]? = some (.cells #[.int .i64 (X : Int), .int .i64 o] TFa (0, 0)) := by rw [hW]; exact heap_new w _
  obtain ⟨bx, hbx⟩ : ∃ b, b = w.heap.size := ⟨_, rfl⟩
  have hno : ¬ OwnB sb m s bx := fun q => by
    have h1 := h.own_lt bx q
    omega
  rw [← hbx] at hbW
  obtain ⟨w2, hw2⟩ : ∃ w2, w2 = W.setCell ⟨sb, 4, none⟩ (.slice m.da d m.dc) := ⟨_, rfl⟩
  rw [← hw2] at hM2 hS2
  rw [hda, hdc] at hw2
  obtain ⟨s2, hs2⟩ : ∃ s2, s2 = ({ s with due := s.due.take d } : SolD) := ⟨_, rfl⟩
  rw [← hs2] at hM2 hS2
  have hbx2 : w2.heap[bx]? = some (.cells #[.int .i64 (X : Int), .int .i64 o] TFa (0, 0)) := hS2.keep bx _ hbW hno
  have hno2 : ¬ OwnB sb m s2 bx := fun q => by
    rcases hS2.own bx q with q | q
    · exact hno q
    · exact Nat.lt_irrefl _ (Nat.lt_of_lt_of_le (Array.getElem?_eq_some_iff.1 hbW).1 q)
  have hh2 : s2.has = s.has := by rw [hs2]
  have hXl : X < s2.has.length := by rw [hh2]; exact hC.lt
  obtain ⟨zs, hzs⟩ : ∃ zs, zs = s.has.getD X [] := ⟨_, rfl⟩
  obtain ⟨nz, hnz⟩ : ∃ nz, nz = zs.length := ⟨_, rfl⟩
  obtain ⟨ba, bc, hbf⟩ := hM2.has.form X hXl
  rw [hh2, ← hzs, ← hnz] at hbf
  obtain ⟨mg, hmg⟩ : ∃ mg, mg = m.g := ⟨_, rfl⟩
  obtain ⟨mc, hmc⟩ : ∃ mc, mc = m.hc := ⟨_, rfl⟩
  obtain ⟨cN, hcN⟩ : ∃ cN, cN = zs.countP (· < o) := ⟨_, rfl⟩
  have t3 : w2.cell? ⟨sb, 3, none⟩ = some (.slice (some ⟨mg, 0, none⟩) n mc) := by
    have := hM2.blk
    rw [hh2, ← hC.size, ← hmg, ← hmc] at this
    rw [Lib.cell_of_heap this]; rfl
  have tx : w2.cell? ⟨mg, X, none⟩ = some (.slice ba nz bc) := by rw [hmg, ← hbf]; exact hM2.has.cell X hXl
  have hB2 : Below w2.heap.size w2 w2 := Below.refl _ _
  have keepC : Hid (∀ wx, Below w2.heap.size w2 wx → wx.cell? ⟨sb, 3, none⟩ = some (.slice (some ⟨mg, 0, none⟩) n mc) ∧ wx.cell? ⟨bx, 0, none⟩ = some (.int .i64 (X : Int)) ∧ wx.cell? ⟨bx, 1, none⟩ = some (.int .i64 o)) := fun wx hb =>
    ⟨cell_keep hb t3, by rw [Lib.cell_of_heap (block_keep hb hbx2)]; rfl, by rw [Lib.cell_of_heap (block_keep hb hbx2)]; rfl⟩
  have keepX : Hid (∀ wx, Below w2.heap.size w2 wx → wx.cell? ⟨mg, X, none⟩ = some (.slice ba nz bc)) := fun wx hb => cell_keep hb tx
  have hrowX := hM2.has.own X hXl
  rw [hh2, ← hzs, hbf] at hrowX
  have KS : Hid (∀ wx, Below w2.heap.size w2 wx → Calls Tryz.prog 79 #[.slice ba nz bc, .int .i64 o] wx fun e w' => e = .returned (.tuple #[.int .i64 (cN : Int), .bool (zs.contains o)]) ∧ Below w2.heap.size w2 w') := fun wx hb => by
    have hr := owns_below hrowX hb
    refine (search_any zs _ o wx (by have := hC.rowl; rw [hzs]; omega) (isCap_of_owns hr).1 ((by rw [hzs]; exact hC.row : zs.Pairwise (· < ·)).imp (fun q => Int.le_of_lt q))).mono ?_
    rintro e w' ⟨rfl, q, rfl⟩
    exact ⟨by rw [hcN], below_drewN hb q⟩
  have hins : insD zs o = zs.take cN ++ o :: zs.drop cN := by rw [hcN]; exact insD_cut (by rw [hzs]; exact hC.row) o
  have hcome := (come1_eq hC.dl hC.last).1
  have KI : Hid (∀ wx vb, Below w2.heap.size w2 wx → w2.heap.size ≤ vb → wx.heap[vb]? = some (.cells #[.int .i64 o] 3 (0, 0)) → Calls Tryz.prog 80 #[.slice ba nz bc, .int .i64 (cN : Int), .slice (some ⟨vb, 0, none⟩) 1 1] wx fun e w7 => ∃ va vc, e = .returned (.slice va (nz + 1) vc) ∧ (w7.cell? ⟨sb, 3, none⟩ = some (.slice (some ⟨mg, 0, none⟩) n mc) ∧ w7.cell? ⟨bx, 0, none⟩ = some (.int .i64 (X : Int)) ∧ w7.cell? ⟨bx, 1, none⟩ = some (.int .i64 o)) ∧ w7.cell? ⟨mg, X, none⟩ = some (.slice ba nz bc) ∧ w7.frozen? ⟨mg, X, none⟩ = false ∧
      Hid (((w7.setCell ⟨mg, X, none⟩ (.slice va (nz + 1) vc)).cell? ⟨sb, 3, none⟩ = some (.slice (some ⟨mg, 0, none⟩) n mc) ∧ (w7.setCell ⟨mg, X, none⟩ (.slice va (nz + 1) vc)).cell? ⟨bx, 0, none⟩ = some (.int .i64 (X : Int)) ∧ (w7.setCell ⟨mg, X, none⟩ (.slice va (nz + 1) vc)).cell? ⟨bx, 1, none⟩ = some (.int .i64 o)) ∧ CameIn w B sb fs m s bx X o (w7.setCell ⟨mg, X, none⟩ (.slice va (nz + 1) vc)))) := fun wx vb hb hge hvb => by
    subst hmg hmc
    have hMx := hM2.below hb
    have hr := owns_below hrowX hb
    have hvl := hC.rowl
    rw [← hzs] at hvl
    have hne : (Value.slice ba nz bc).ownBlock ≠ some vb := fun q => by
      have := (ownBlock_lt hrowX q).1
      omega
    have hcl : cN ≤ zs.length := by rw [hcN]; exact insD_at zs o
    have hbxx := block_keep hb hbx2
    refine (insert_any wx B (.slice ba nz bc) zs (by rw [hnz] at hr ⊢; exact hr) hMx.size (by omega) cN hcl o vb hvb hne).mono ?_
    rintro e w7 ⟨a, c, rfl, hown, hkeep, hb1, hob⟩
    rw [← hnz] at hown hob ⊢
    obtain ⟨hM7, hS7⟩ := hMx.putRow X hXl (.slice a (nz + 1) c) (insD zs o) (by rw [hbf]; exact hkeep) hb1 (by rw [ins_len, hins, ← hnz]; exact hown) (by rw [hbf]; exact hob)
    have hx7 := hkeep bx _ hbxx (own_ne hr hbxx (by decide))
    have hg7 := hkeep _ _ hMx.has.blk (own_ne hr hMx.has.blk (by decide))
    have hs7 := hkeep _ _ hMx.blk (own_ne hr hMx.blk (by decide))
    have hx8 := hS7.keep bx _ hbxx hno2
    have hs8 := hM7.blk
    have hn8 : ¬ OwnB sb { m with us := m.us.set X (.slice a (nz + 1) c) } { s2 with has := s2.has.set X (insD zs o) } bx := fun q => by
      rcases hS7.own bx q with q | q
      · exact hno2 q
      · exact Nat.lt_irrefl _ (Nat.lt_of_lt_of_le (Array.getElem?_eq_some_iff.1 hbxx).1 q)
    have hst : s.come1 = { s2 with has := s2.has.set X (insD zs o) } := by rw [hcome, hs2, hzs]
    refine ⟨a, c, rfl, ⟨?_, ?_, ?_⟩, ?_, ?_, ⟨?_, ?_, ?_⟩, ?_⟩
    · rw [hh2, ← hC.size] at hs7
      rw [Lib.cell_of_heap hs7]; rfl
    · rw [Lib.cell_of_heap hx7]; rfl
    · rw [Lib.cell_of_heap hx7]; rfl
    · rw [Lib.cell_of_heap hg7, ← hbf]
      have : X < m.us.length := by rw [hMx.has.lu]; exact hXl
      simp [List.getD, this]
    · exact Lib.frozen_of_heap hg7 X
    · simp only [List.length_set] at hs8
      rw [hh2, ← hC.size] at hs8
      rw [Lib.cell_of_heap hs8]; rfl
    · rw [Lib.cell_of_heap hx8]; rfl
    · rw [Lib.cell_of_heap hx8]; rfl
    · refine ⟨{ m with us := m.us.set X (.slice a (nz + 1) c) }, by rw [hst]; exact hM7, ?_, rfl, rfl, rfl, rfl, rfl, rfl, rfl, hx8, by rw [hst]; exact hn8⟩
      rw [hst]
      exact (((SolStep.refl hBW sb m s).trans hS2).trans (SolStep.refl hb sb m s2)).toR.trans hS7
  have HE : Hid (w2.cell? ⟨mg, X, none⟩ = some (.slice ba nz bc) ∧ w2.frozen? ⟨mg, X, none⟩ = false) := ⟨tx, by rw [hmg]; exact Lib.frozen_of_heap hM2.has.blk X⟩
  have HALL : Hid (FunsK w sb fs m s ∧ ComeOk fs m s n X d o ∧ SolM w B sb fs m s) := ⟨hF, hC, h⟩
  have t4a : W.cell? ⟨sb, 4, none⟩ = some (.slice (some ⟨g, 0, none⟩) nd cap) := cell_keep hBW t4
  have f4 : W.frozen? ⟨sb, 4, none⟩ = false := Lib.frozen_of_heap (block_keep hBW hsb) 4
  have hwrap : IntKind.i64.wrap ((nd : Int) - 1) = (d : Int) := by rw [IntKind.wrap_i64]; have := hC.dmax; omega
  have hdn : (d : Int) < (nd : Int) := by omega
  have hdc2 : (d : Int) ≤ (cap : Int) := by omega
  have hdcN : d ≤ cap := by omega
  have hXn : (X : Int) < n := by have := hC.lt; have := hC.size; omega
  have HW : Hid (W = w.alloc (.cells #[.int .i64 (X : Int), .int .i64 o] TFa) ∧ w2 = W.setCell ⟨sb, 4, none⟩ (.slice (some ⟨g, 0, none⟩) d cap) ∧ bx = w.heap.size) := ⟨hW, hw2, hbx⟩
  rw [hW] at t4a f4
  clear hF hC h hdl hdue hsb hgB hh hnc hcm hcs htk hcl hBW hM1 hM2 hS2 hbW hno hbx2 hno2 hh2 hXl hzs hnz hbf hmg hmc hcN hrowX hins hcome hs2 hw2 hbx hW hda hdc hB2 tx t3 hnd
  go_enter Tryz.func38, Tryz.ntmps38
  go_upto_region 3 with fail
  rw [← HW.out.1]
  rw [← HW.out.2.1]
  rw [← HW.out.2.2]
  have c3 := keepC.out w2 (Below.refl _ _)
  obtain ⟨z3, z0, z1⟩ := c3
  have zx := keepX.out w2 (Below.refl _ _)
  have HKS : Hid (∀ wx, Below w2.heap.size w2 wx → Below w2.heap.size w2 wx ∧ wx.cell? ⟨sb, 3, none⟩ = some (.slice (some ⟨mg, 0, none⟩) n mc) ∧ wx.cell? ⟨bx, 0, none⟩ = some (.int .i64 (X : Int)) ∧ wx.cell? ⟨bx, 1, none⟩ = some (.int .i64 o) ∧ wx.cell? ⟨mg, X, none⟩ = some (.slice ba nz bc)) := fun wx hb => ⟨hb, (keepC.out wx hb).1, (keepC.out wx hb).2.1, (keepC.out wx hb).2.2, keepX.out wx hb⟩
  clear hc0 hc1 t4 t4a f4 hwrap hdn hdc2 hdcN
  go_cut [4] (fun s4 wx => s4 = .int .i64 (cN : Int) ∧ Below w2.heap.size w2 wx)
  case first =>
    go_region_held3 (fun wx => Below w2.heap.size w2 wx ∧ wx.cell? ⟨sb, 3, none⟩ = some (.slice (some ⟨mg, 0, none⟩) n mc) ∧ wx.cell? ⟨bx, 0, none⟩ = some (.int .i64 (X : Int)) ∧ wx.cell? ⟨bx, 1, none⟩ = some (.int .i64 o) ∧ wx.cell? ⟨mg, X, none⟩ = some (.slice ba nz bc))
      ((refine HKS.out _ ?_; repeat (with_reducible first | assumption | exact Below.refl _ _ | refine Below.drew ?_)))
      ((go_at_call 79; refine (KS.out _ ?_).mono ?_; (repeat (with_reducible first | assumption | exact Below.refl _ _ | refine Below.drew ?_)); rintro e w3 ⟨rfl, hb3⟩))
    all_goals
      go_wp2_with fail
      go_meet
      refine ⟨rfl, ?_⟩
      repeat (with_reducible first | assumption | exact Below.refl _ _ | refine Below.drew ?_)
  case rest =>
  obtain ⟨rfl, hbc⟩ := hcut
  obtain ⟨y3, y0, y1⟩ := keepC.out wc hbc
  have yx := keepX.out wc hbc
  have yxa := keepX.out (wc.alloc (.cells #[.int .i64 o] 3)) (below_alV hbc _)
  clear z3 z0 z1 zx KS
  go_upto_region 4 with fail
  go_cut [64] (fun _ wx => CameIn w B sb fs m s bx X o wx)
  case first =>
    refine wp_region_noPanic ?_
    refine wp_region_held_drew (S := fun wx => wx.cell? ⟨sb, 3, none⟩ = some (.slice (some ⟨mg, 0, none⟩) n mc) ∧ wx.cell? ⟨bx, 0, none⟩ = some (.int .i64 (X : Int)) ∧ wx.cell? ⟨bx, 1, none⟩ = some (.int .i64 o)) (by kernel_rfl) (keepC.out _ hbc.drew) (fun hHeld => ?_)
    refine wpAnyH_take (i := 0) (oi := _) (v := .pointer (some ⟨sb, 0, none⟩)) rfl (by kernel_rfl) (by kernel_rfl) (by kernel_rfl) (fun _ _ _ h => h) (Or.inl ⟨by rfl, ?_⟩) hHeld ?_
    · (intro w hSw; obtain ⟨hSw0, hSw1, hSw2⟩ := hSw; go_simp)
    try simp only [Act.put, List.setIfInBounds_toArray]
    refine wpAnyH_take (i := 1) (oi := _) (v := .pointer (some ⟨sb, 0, none⟩)) rfl (by kernel_rfl) (by kernel_rfl) (by kernel_rfl) (fun _ _ _ h => h) (Or.inl ⟨by rfl, ?_⟩) hHeld ?_
    · (intro w hSw; obtain ⟨hSw0, hSw1, hSw2⟩ := hSw; go_simp)
    try simp only [Act.put]
    refine wpAnyH_take (i := 2) (oi := _) (v := .pointer (some ⟨sb, 3, none⟩)) rfl (by kernel_rfl) (by kernel_rfl) (by kernel_rfl) (fun _ _ _ h => h) (Or.inl ⟨by rfl, ?_⟩) hHeld ?_
    · (intro w hSw; obtain ⟨hSw0, hSw1, hSw2⟩ := hSw; go_simp)
    try simp only [Act.put]
    refine wpAnyH_take (i := 3) (oi := _) (v := .slice (some ⟨mg, 0, none⟩) n mc) rfl (by kernel_rfl) (by kernel_rfl) (by kernel_rfl) (fun _ _ _ h => h) (Or.inl ⟨by rfl, ?_⟩) hHeld ?_
    · (intro w hSw; obtain ⟨hSw0, hSw1, hSw2⟩ := hSw; go_simp)
    try simp only [Act.put]
    refine wpAnyH_take (i := 4) (oi := _) (v := .pointer (some ⟨bx, 0, none⟩)) rfl (by kernel_rfl) (by kernel_rfl) (by kernel_rfl) (fun _ _ _ h => h) (Or.inl ⟨by rfl, ?_⟩) hHeld ?_
    · (intro w hSw; obtain ⟨hSw0, hSw1, hSw2⟩ := hSw; go_simp)
    try simp only [Act.put]
    refine wpAnyH_take (i := 5) (oi := _) (v := .int .i64 (X : Int)) rfl (by kernel_rfl) (by kernel_rfl) (by kernel_rfl) (fun _ _ _ h => h) (Or.inl ⟨by rfl, ?_⟩) hHeld ?_
    · (intro w hSw; obtain ⟨hSw0, hSw1, hSw2⟩ := hSw; go_simp)
    try simp only [Act.put]
    refine wpAnyH_take (i := 6) (oi := _) (v := .pointer (some ⟨sb, 0, none⟩)) rfl (by kernel_rfl) (by kernel_rfl) (by kernel_rfl) (fun _ _ _ h => h) (Or.inl ⟨by rfl, ?_⟩) hHeld ?_
    · (intro w hSw; obtain ⟨hSw0, hSw1, hSw2⟩ := hSw; go_simp)
    try simp only [Act.put]
    refine wpAnyH_take (i := 7) (oi := _) (v := .pointer (some ⟨sb, 0, none⟩)) rfl (by kernel_rfl) (by kernel_rfl) (by kernel_rfl) (fun _ _ _ h => h) (Or.inl ⟨by rfl, ?_⟩) hHeld ?_
    · (intro w hSw; obtain ⟨hSw0, hSw1, hSw2⟩ := hSw; go_simp)
    try simp only [Act.put]
    refine wpAnyH_take (i := 8) (oi := _) (v := .pointer (some ⟨sb, 3, none⟩)) rfl (by kernel_rfl) (by kernel_rfl) (by kernel_rfl) (fun _ _ _ h => h) (Or.inl ⟨by rfl, ?_⟩) hHeld ?_
    · (intro w hSw; obtain ⟨hSw0, hSw1, hSw2⟩ := hSw; go_simp)
    try simp only [Act.put]
    refine wpAnyH_take (i := 9) (oi := _) (v := .slice (some ⟨mg, 0, none⟩) n mc) rfl (by kernel_rfl) (by kernel_rfl) (by kernel_rfl) (fun _ _ _ h => h) (Or.inl ⟨by rfl, ?_⟩) hHeld ?_
    · (intro w hSw; obtain ⟨hSw0, hSw1, hSw2⟩ := hSw; go_simp)
    try simp only [Act.put]
    refine wpAnyH_take (i := 10) (oi := _) (v := .pointer (some ⟨bx, 0, none⟩)) rfl (by kernel_rfl) (by kernel_rfl) (by kernel_rfl) (fun _ _ _ h => h) (Or.inl ⟨by rfl, ?_⟩) hHeld ?_
    · (intro w hSw; obtain ⟨hSw0, hSw1, hSw2⟩ := hSw; go_simp)
    try simp only [Act.put]
    refine wpAnyH_take (i := 11) (oi := _) (v := .int .i64 (X : Int)) rfl (by kernel_rfl) (by kernel_rfl) (by kernel_rfl) (fun _ _ _ h => h) (Or.inl ⟨by rfl, ?_⟩) hHeld ?_
    · (intro w hSw; obtain ⟨hSw0, hSw1, hSw2⟩ := hSw; go_simp)
    try simp only [Act.put]
    refine wpAnyH_take (i := 12) (oi := _) (v := .pointer (some ⟨mg, X, none⟩)) rfl (by kernel_rfl) (by kernel_rfl) (by kernel_rfl) (fun _ _ _ h => h) (Or.inl ⟨by rfl, ?_⟩) hHeld ?_
    · (intro w hSw; obtain ⟨hSw0, hSw1, hSw2⟩ := hSw; go_simp)
    try simp only [Act.put]
    refine wpAnyH_take (i := 14) (oi := _) (v := .int .i64 (cN : Int)) rfl (by kernel_rfl) (by kernel_rfl) (by kernel_rfl) (fun _ _ _ h => h) (Or.inl ⟨by rfl, ?_⟩) hHeld ?_
    · (intro w hSw; obtain ⟨hSw0, hSw1, hSw2⟩ := hSw; go_simp)
    try simp only [Act.put]
    refine wpAnyH_take (i := 15) (oi := _) (v := .pointer (some ⟨bx, 1, none⟩)) rfl (by kernel_rfl) (by kernel_rfl) (by kernel_rfl) (fun _ _ _ h => h) (Or.inl ⟨by rfl, ?_⟩) hHeld ?_
    · (intro w hSw; obtain ⟨hSw0, hSw1, hSw2⟩ := hSw; go_simp)
    try simp only [Act.put]
    refine wpAnyH_take (i := 16) (oi := _) (v := .int .i64 o) rfl (by kernel_rfl) (by kernel_rfl) (by kernel_rfl) (fun _ _ _ h => h) (Or.inl ⟨by rfl, ?_⟩) hHeld ?_
    · (intro w hSw; obtain ⟨hSw0, hSw1, hSw2⟩ := hSw; go_simp)
    try simp only [Act.put]
    refine wpAnyH_ready (rs := [13, 17]) (by kernel_rfl) (by simp) ?_
    refine AllReadyH.cons (o := _) rfl (fun K hK => ?_) (AllReadyH.cons (o := _) rfl (fun K hK => ?_) AllReadyH.nil)
    · go_simp
      refine hK.out _ _ (keepC.out _ (by repeat (with_reducible first | assumption | exact Below.refl _ _ | refine Below.drew ?_ | refine below_alV ?_ _))) (fun hHeld => ?_)
      clear hK K
      try simp only [Act.put, List.setIfInBounds_toArray, List.set_cons_zero, List.set_cons_succ]
      refine wpAnyH_ready (rs := [17]) (by kernel_rfl) (by simp) ?_
      refine AllReadyH.cons (o := _) rfl (fun K hK => ?_) AllReadyH.nil
      go_simp
      refine hK.out _ _ (keepC.out _ (by repeat (with_reducible first | assumption | exact Below.refl _ _ | refine Below.drew ?_ | refine below_alV ?_ _))) (fun hHeld => ?_)
      clear hK K
      try simp only [Act.put, List.setIfInBounds_toArray, List.set_cons_zero, List.set_cons_succ]
      refine wpAnyH_ready (rs := [18]) (by kernel_rfl) (by simp) ?_
      refine AllReadyH.cons (o := _) rfl (fun K hK => ?_) AllReadyH.nil
      go_simp
      refine (KI.out _ _ (by repeat (with_reducible first | assumption | exact Below.refl _ _ | refine Below.drew ?_ | refine below_alV ?_ _)) hbc.size (by exact heap_new _ _)).mono ?_
      rintro e w7 ⟨va, vc, rfl, hcc, hmx, hfr, HN⟩
      go_wp2_with fail
      refine hK.out _ _ hcc (fun hHeld => ?_)
      clear hK K
      try simp only [Act.put, List.setIfInBounds_toArray, List.set_cons_zero, List.set_cons_succ]
      refine wpAnyH_take (i := 19) (oi := _) (v := .pointer (some ⟨mg, X, none⟩)) rfl (by kernel_rfl) (by kernel_rfl) (by kernel_rfl) (fun _ _ _ h => h) (Or.inl ⟨by rfl, ?_⟩) hHeld ?_
      · (intro w hSw; obtain ⟨hSw0, hSw1, hSw2⟩ := hSw; go_simp)
      try simp only [Act.put, List.setIfInBounds_toArray]
      refine wpAnyH_ready (rs := [20]) (by kernel_rfl) (by simp) ?_
      refine AllReadyH.cons (o := _) rfl (fun K hK => ?_) AllReadyH.nil
      go_simp
      refine hK.out _ _ HN.out.1 (fun hHeld => ?_)
      clear hK K
      try simp only [Act.put, List.setIfInBounds_toArray, List.set_cons_zero, List.set_cons_succ]
      refine wpAnyH_done (by kernel_rfl) ?_ _
      refine NoPanic.normal ?_
      go_wp2_with fail
      go_meet
      exact HN.out.2
    · go_simp
      refine hK.out _ _ (keepC.out _ (by repeat (with_reducible first | assumption | exact Below.refl _ _ | refine Below.drew ?_ | refine below_alV ?_ _))) (fun hHeld => ?_)
      clear hK K
      try simp only [Act.put, List.setIfInBounds_toArray, List.set_cons_zero, List.set_cons_succ]
      refine wpAnyH_ready (rs := [13]) (by kernel_rfl) (by simp) ?_
      refine AllReadyH.cons (o := _) rfl (fun K hK => ?_) AllReadyH.nil
      go_simp
      refine hK.out _ _ (keepC.out _ (by repeat (with_reducible first | assumption | exact Below.refl _ _ | refine Below.drew ?_ | refine below_alV ?_ _))) (fun hHeld => ?_)
      clear hK K
      try simp only [Act.put, List.setIfInBounds_toArray, List.set_cons_zero, List.set_cons_succ]
      refine wpAnyH_ready (rs := [18]) (by kernel_rfl) (by simp) ?_
      refine AllReadyH.cons (o := _) rfl (fun K hK => ?_) AllReadyH.nil
      go_simp
      refine (KI.out _ _ (by repeat (with_reducible first | assumption | exact Below.refl _ _ | refine Below.drew ?_ | refine below_alV ?_ _)) hbc.size (by exact heap_new _ _)).mono ?_
      rintro e w7 ⟨va, vc, rfl, hcc, hmx, hfr, HN⟩
      go_wp2_with fail
      refine hK.out _ _ hcc (fun hHeld => ?_)
      clear hK K
      try simp only [Act.put, List.setIfInBounds_toArray, List.set_cons_zero, List.set_cons_succ]
      refine wpAnyH_take (i := 19) (oi := _) (v := .pointer (some ⟨mg, X, none⟩)) rfl (by kernel_rfl) (by kernel_rfl) (by kernel_rfl) (fun _ _ _ h => h) (Or.inl ⟨by rfl, ?_⟩) hHeld ?_
      · (intro w hSw; obtain ⟨hSw0, hSw1, hSw2⟩ := hSw; go_simp)
      try simp only [Act.put, List.setIfInBounds_toArray]
      refine wpAnyH_ready (rs := [20]) (by kernel_rfl) (by simp) ?_
      refine AllReadyH.cons (o := _) rfl (fun K hK => ?_) AllReadyH.nil
      go_simp
      refine hK.out _ _ HN.out.1 (fun hHeld => ?_)
      clear hK K
      try simp only [Act.put, List.setIfInBounds_toArray, List.set_cons_zero, List.set_cons_succ]
      refine wpAnyH_done (by kernel_rfl) ?_ _
      refine NoPanic.normal ?_
      go_wp2_with fail
      go_meet
      exact HN.out.2
  case rest =>
  obtain ⟨m4, hM4, hS4, k4, e4, r4, g4, hc4, ra4, rv4, hb4, hn4⟩ := hcut
  obtain ⟨w6, rfl⟩ : ∃ z, z = wc := ⟨_, rfl⟩
  have hC := HALL.out.2.1
  have hx : okI (X : Int) := by unfold okI; have := hC.lt; have := hC.size; have := hC.few; omega
  obtain ⟨es, hes⟩ : ∃ es, es = s.edges (X : Int) := ⟨_, rfl⟩
  obtain ⟨ne, hne⟩ : ∃ ne, ne = es.length := ⟨_, rfl⟩
  have hes1 : s.come1.edges (X : Int) = es := by rw [hes]; rfl
  have hrw := hM4.row (X : Int)
  rw [hes1, ← hne] at hrw
  obtain ⟨ea, ec, hef⟩ := owns_form hrw
  obtain ⟨meb, hmeb⟩ : ∃ b, b = m4.eb := ⟨_, rfl⟩
  have H4 : Hid (SolM w6 B sb fs m4 s.come1 ∧ SolStepR w w6 sb m m4 s s.come1 ∧ m4.kn = m.kn ∧ m4.en = m.en ∧ m4.rn = m.rn ∧ w6.heap[bx]? = some (.cells #[.int .i64 (X : Int), .int .i64 o] TFa (0, 0)) ∧ ¬ OwnB sb m4 s.come1 bx ∧ rowV s.edges m4.ev (X : Int) = .slice ea ne ec ∧ es = s.edges (X : Int) ∧ ne = es.length) := ⟨hM4, hS4, k4, e4, r4, hb4, hn4, hef, hes, hne⟩
  have HK5 : Hid (∀ wx, Below w6.heap.size w6 wx → wx.cell? ⟨sb, 6, none⟩ = some (.map (some meb)) ∧ wx.cell? ⟨bx, 0, none⟩ = some (.int .i64 (X : Int)) ∧ (Instr.lookup 66 (.map (some meb)) (.int .i64 (X : Int)) false).run Tryz.prog wx = .ok (.slice ea ne ec) wx) := fun wx hb => by
    have hMx := hM4.below hb
    have := hMx.edgeLook (X : Int) hx
    rw [hef, ← hmeb] at this
    refine ⟨?_, by rw [Lib.cell_of_heap (block_keep hb hb4)]; rfl, this⟩
    rw [Lib.cell_of_heap hMx.blk, hmeb]; rfl
  obtain ⟨q6, q0, ql⟩ := HK5.out w6 (Below.refl _ _)
  clear hM4 hS4 k4 e4 r4 g4 hc4 ra4 rv4 hb4 hn4 hC hes hne hes1 hrw hef hmeb y3 y0 y1 yx yxa
  go_upto_region 5 with fail
  go_cut [72, 73, 74] (fun s72 s73 s74 wx => s72 = .slice ea ne ec ∧ s73 = .int .i64 (ne : Int) ∧ s74 = .int .i64 0 ∧ Below w6.heap.size w6 wx)
  case first =>
    go_region_held3 (fun wx => wx.cell? ⟨sb, 6, none⟩ = some (.map (some meb)) ∧ wx.cell? ⟨bx, 0, none⟩ = some (.int .i64 (X : Int)) ∧ (Instr.lookup 66 (.map (some meb)) (.int .i64 (X : Int)) false).run Tryz.prog wx = .ok (.slice ea ne ec) wx)
      ((go_split_ands; with_reducible first | exact HK5.out _ (Below.refl _ _).drew))
      (fail)
    all_goals
      go_wp2_with fail
      go_meet
      refine ⟨rfl, rfl, rfl, ?_⟩
      repeat (with_reducible first | assumption | exact Below.refl _ _ | refine Below.drew ?_)
  case rest =>
  obtain ⟨rfl, rfl, rfl, hbq⟩ := hcut
  obtain ⟨w7, rfl⟩ : ∃ z, z = wc := ⟨_, rfl⟩
  have HB7 : Hid (Below w6.heap.size w6 w7) := hbq
  clear hbq q6 q0 ql HK5
  go_wp2_with fail
  go_loopw [74] (fun t wr => ∃ k : Nat, k ≤ ne ∧ t = .int .i64 k ∧ ∃ m', SolM wr B sb fs m' (eK s.come1 es o k) ∧ SolStep w6 wr sb m4 m' s.come1 (eK s.come1 es o k) ∧ m'.kn = m4.kn + k ∧ m'.en = m4.en ∧ m'.rn = m4.rn ∧ m'.ev = m4.ev) (fun t _ => (ne - intOf t).toNat)
  case atStart => exact ⟨0, Nat.zero_le _, rfl, m4, H4.out.1.below HB7.out, SolStep.refl HB7.out sb m4 s.come1, rfl, rfl, rfl, rfl⟩
  case round =>
    obtain ⟨k, hk, rfl, m1, hM, hS, hkn, hen, hrn, hev⟩ := hrel
    by_cases hlt : k < ne
    · have hC := HALL.out.2.1
      have hhe : (eK s.come1 es o k).edges = s.edges := (awaits_has _ _).2.2
      have hef := H4.out.2.2.2.2.2.2.2.1
      have hes := H4.out.2.2.2.2.2.2.2.2.1
      have hne := H4.out.2.2.2.2.2.2.2.2.2
      have hrow := hM.row (X : Int)
      rw [hhe, hev, hef, ← hes] at hrow
      obtain ⟨bq, oq, hba, ez⟩ := isInts_at (isCap_of_owns hrow).1 k (by rw [← hne]; exact hlt)
      subst hba
      obtain ⟨z, hz⟩ : ∃ z, z = es.getD k 0 := ⟨_, rfl⟩
      rw [← hz] at ez
      have hki : (k : Int) < ne := by omega
      have hnb : ne ≤ 1000000 := by rw [hne, hes]; exact hC.esl
      have hzo : okI z := hC.es z (by rw [← hes, hz]; exact getD_memC (by rw [← hne]; exact hlt))
      have hbx := hS.keep bx _ H4.out.2.2.2.2.2.1 H4.out.2.2.2.2.2.2.1
      have b1 : wr.cell? ⟨bx, 1, none⟩ = some (.int .i64 o) := by rw [Lib.cell_of_heap hbx]; rfl
      have hnx : eK s.come1 es o (k + 1) = (eK s.come1 es o k).await (z, o) := by rw [hz]; exact eK_next _ _ _ _ (by rw [← hne]; exact hlt)
      have KA := hM.awaitC (z, o) ⟨hzo, by have := hC.obj; show okI o; unfold okI; omega⟩ (by have h1 := hC.kn; have h2 := H4.out.2.2.1; have h3 := hC.esl; rw [← hes, ← hne] at h3; omega) (by have := hC.dues k (by rw [← hes, ← hne]; exact hk); rw [← hes] at this; exact this)
      rw [← hnx] at KA
      have HKA : Hid _ := KA
      have HS : Hid (SolStep w6 wr sb m4 m1 s.come1 (eK s.come1 es o k) ∧ m1.kn = m4.kn + k ∧ m1.en = m4.en ∧ m1.rn = m4.rn ∧ m1.ev = m4.ev) := ⟨hS, hkn, hen, hrn, hev⟩
      clear KA hC hhe hef hes hne hrow hz hzo hbx hnx hM hS hkn hen hrn hev
      go_wp2_with (go_at_call 61; refine Calls.mono HKA.out ?_; rintro e w9 ⟨rfl, m2, hM2, hS2, q1, q2, q3, q4⟩)
      go_roundw
      case rel => exact ⟨k + 1, hlt, by go_num, m2, hM2, HS.out.1.trans hS2, by rw [q1, HS.out.2.1]; rfl, by rw [q2, HS.out.2.2.1], by rw [q3, HS.out.2.2.2.1], by rw [q4, HS.out.2.2.2.2]⟩
      case measure => simp [intOf]; omega
    · have hkn0 : k = ne := by omega
      subst hkn0
      obtain ⟨w8, rfl⟩ : ∃ z, z = wr := ⟨_, rfl⟩
      have hC := HALL.out.2.1
      have hx : okI (X : Int) := by unfold okI; have := hC.lt; have := hC.size; have := hC.few; omega
      have hes := H4.out.2.2.2.2.2.2.2.2.1
      have hne := H4.out.2.2.2.2.2.2.2.2.2
      obtain ⟨s5, hs5⟩ : ∃ s5, s5 = eK s.come1 es o k := ⟨_, rfl⟩
      rw [← hs5] at hM hS
      have hrl5 : s5.rules = s.rules := by rw [hs5]; exact (awaits_has _ _).2.1
      have hn5 : s5.has.length = n := by
        have h1 : s5.has = s.come1.has := by rw [hs5]; exact (awaits_has _ _).1
        rw [h1, hC.size]
        unfold SolD.come1
        simp only [List.length_set]
      obtain ⟨rs, hrs⟩ : ∃ rs, rs = s.rules (X : Int) := ⟨_, rfl⟩
      obtain ⟨nr, hnr⟩ : ∃ nr, nr = rs.length := ⟨_, rfl⟩
      have hrw := hM.rrowV (X : Int)
      rw [hrl5, ← hrs, ← hnr] at hrw
      obtain ⟨ra, rc, hrf⟩ := owns_form hrw
      obtain ⟨mrb, hmrb⟩ : ∃ b, b = m1.rb := ⟨_, rfl⟩
      have hfin : s.come n fs = rK n fs rs o s5 nr := by
        unfold SolD.come
        rw [(come1_eq hC.dl hC.last).2, hnr, rK_all, hs5, hne, eK_all, hes, hrs]
      have hb8 := hS.keep bx _ H4.out.2.2.2.2.2.1 H4.out.2.2.2.2.2.2.1
      have hn8 : ¬ OwnB sb m1 s5 bx := fun q => by
        rcases hS.own bx q with q | q
        · exact H4.out.2.2.2.2.2.2.1 q
        · exact Nat.lt_irrefl _ (Nat.lt_of_lt_of_le (Array.getElem?_eq_some_iff.1 H4.out.2.2.2.2.2.1).1 q)
      have H8 : Hid (SolM w8 B sb fs m1 s5 ∧ SolStepR w w8 sb m m1 s s5 ∧ m1.kn ≤ m.kn + 1000000 ∧ m1.en = m.en ∧ m1.rn = m.rn ∧ w8.heap[bx]? = some (.cells #[.int .i64 (X : Int), .int .i64 o] TFa (0, 0)) ∧ ¬ OwnB sb m1 s5 bx ∧ rowV s.rules m1.rv (X : Int) = .slice ra nr rc ∧ rs = s.rules (X : Int) ∧ nr = rs.length ∧ s5.rules = s.rules ∧ s5.has.length = n ∧ s5 = eK s.come1 (s.edges (X : Int)) o (s.edges (X : Int)).length) :=
        ⟨hM, H4.out.2.1.trans hS.toR, by have h1 := H4.out.2.2.1; have h2 := hC.esl; rw [← hes, ← hne] at h2; omega, by rw [hen, H4.out.2.2.2.1], by rw [hrn, H4.out.2.2.2.2.1], hb8, hn8, hrf, hrs, hnr, hrl5, hn5, by rw [hs5, hne, hes]⟩
      have HFIN : Hid (s.come n fs = rK n fs rs o s5 nr) := hfin
      have HK10 : Hid (∀ wx, Below w8.heap.size w8 wx → wx.cell? ⟨sb, 7, none⟩ = some (.map (some mrb)) ∧ wx.cell? ⟨bx, 0, none⟩ = some (.int .i64 (X : Int)) ∧ (Instr.lookup 67 (.map (some mrb)) (.int .i64 (X : Int)) false).run Tryz.prog wx = .ok (.slice ra nr rc) wx) := fun wx hb => by
        have hMx := hM.below hb
        have := hMx.ruleLook (X : Int) hx
        rw [hrl5, hrf, ← hmrb] at this
        refine ⟨?_, by rw [Lib.cell_of_heap (block_keep hb hb8)]; rfl, this⟩
        rw [Lib.cell_of_heap hMx.blk, hmrb]; rfl
      obtain ⟨q7, q0, ql⟩ := HK10.out w8 (Below.refl _ _)
      clear hM hS hkn hen hrn hev hC hx hes hne hs5 hrl5 hn5 hrs hnr hrw hrf hmrb hfin hb8 hn8
      go_upto_region 10 with fail
      go_cut [91, 92, 93] (fun s91 s92 s93 wx => s91 = .slice ra nr rc ∧ s92 = .int .i64 (nr : Int) ∧ s93 = .int .i64 0 ∧ Below w8.heap.size w8 wx)
      case first =>
        go_region_held3 (fun wx => wx.cell? ⟨sb, 7, none⟩ = some (.map (some mrb)) ∧ wx.cell? ⟨bx, 0, none⟩ = some (.int .i64 (X : Int)) ∧ (Instr.lookup 67 (.map (some mrb)) (.int .i64 (X : Int)) false).run Tryz.prog wx = .ok (.slice ra nr rc) wx)
          ((go_split_ands; with_reducible first | exact HK10.out _ (Below.refl _ _).drew))
          (fail)
        all_goals
          go_wp2_with fail
          go_meet
          refine ⟨rfl, rfl, rfl, ?_⟩
          repeat (with_reducible first | assumption | exact Below.refl _ _ | refine Below.drew ?_)
      case rest =>
      obtain ⟨rfl, rfl, rfl, hbq⟩ := hcut
      obtain ⟨w9, rfl⟩ : ∃ z, z = wc := ⟨_, rfl⟩
      have HB9 : Hid (Below w8.heap.size w8 w9) := hbq
      clear hbq q7 q0 ql HK10
      go_wp2_with fail
      go_loopw [93] (fun t wr => ∃ j : Nat, j ≤ nr ∧ t = .int .i64 j ∧ ∃ m', SolM wr B sb fs m' (rK n fs rs o s5 j) ∧ SolStep w8 wr sb m1 m' s5 (rK n fs rs o s5 j) ∧ m'.kn ≤ m1.kn + j * 1001000000 ∧ m'.en ≤ m1.en + j * 1001 ∧ m'.rn = m1.rn) (fun t _ => (nr - intOf t).toNat)
      case atStart => exact ⟨0, Nat.zero_le _, rfl, m1, H8.out.1.below HB9.out, SolStep.refl HB9.out sb m1 s5, Nat.le_add_right _ _, Nat.le_add_right _ _, rfl⟩
      case round =>
        obtain ⟨j, hj, rfl, m2, hM, hS, hkn, hen, hrn⟩ := hrel
        by_cases hlt : j < nr
        · have hC := HALL.out.2.1
          have hrs := H8.out.2.2.2.2.2.2.2.2.1
          have hnr := H8.out.2.2.2.2.2.2.2.2.2.1
          have hrlk : (rK n fs rs o s5 j).rules = s.rules := by unfold rK; rw [(joins_has _ _).2]; exact H8.out.2.2.2.2.2.2.2.2.2.2.1
          have hhsk : (rK n fs rs o s5 j).has.length = n := by unfold rK; rw [(joins_has _ _).1]; exact H8.out.2.2.2.2.2.2.2.2.2.2.2.1
          have hrow := hM.rrowV (X : Int)
          rw [hrlk, ← hrs, ← hnr, hS.at_.2.2.2.2.2.2.1, H8.out.2.2.2.2.2.2.2.1] at hrow
          obtain ⟨r, hr⟩ : ∃ r, r = rs.getD j default := ⟨_, rfl⟩
          obtain ⟨av, hav⟩ : ∃ v, v = (m2.ra (X : Int)).getD j .nilIface := ⟨_, rfl⟩
          have hjl : j < rs.length := by rw [← hnr]; exact hlt
          have hmem : r ∈ s.rules (X : Int) := by rw [← hrs, hr]; simp [List.getD, hjl]
          have hargs : ∀ m' s' wy, SolStep wr wy sb m2 m' (rK n fs rs o s5 j) s' → IsInts wy av r.args := fun m' s' wy hs => by
            have := (hM.ro wy hs.keep).args (X : Int) j (by rw [hrlk, ← hrs]; exact hjl)
            rw [hrlk, ← hrs, ← hr, ← hav] at this
            exact this
          have harg0 : IsInts wr av r.args := hargs m2 _ wr (SolStep.refl (Below.refl _ _) sb m2 _)
          obtain ⟨rg, rcap, rcur, hrv, hrB, hrh, hrnc, hrcm, hrcs, hrtk⟩ : ∃ rg cap cur, (Value.slice ra nr rc) = .slice (some ⟨rg, 0, none⟩) nr cap ∧ B ≤ rg ∧ wr.heap[rg]? = some (.cells cur TRu (0, 0)) ∧ nr ≤ cap ∧ cap ≤ maxLen ∧ cur.size = cap * 5 ∧ cur.toList.take (nr * 5) = rcells rs (m2.ra (X : Int)) := by
            rcases hrow.2 with ⟨_, q⟩ | q
            · have h1 := hrow.1
              rw [q] at h1
              simp at h1
              omega
            · exact q
          injection hrv with hra1 _ hrc1
          have hcel : ∀ i, i < 5 → wr.cell? ⟨rg, j * 5 + i, none⟩ = (ruleCellsV r av)[i]? := fun i hi => by
            have h1 := rcells_at rs (m2.ra (X : Int)) j i hjl hi
            rw [← hr, ← hav, ← hrtk, List.getElem?_take, if_pos (by omega)] at h1
            rw [Lib.cell_of_heap hrh, ← h1]
            simp
          obtain ⟨ava, avc, hav2⟩ : ∃ a c, av = .slice a r.args.length c := isInts_form harg0
          obtain ⟨na, hna⟩ : ∃ z, z = r.args.length := ⟨_, rfl⟩
          rw [← hna] at hav2
          obtain ⟨kd, hkd⟩ : ∃ kd, kd = S r.kind := ⟨_, rfl⟩
          obtain ⟨xa, hxa⟩ : ∃ z, z = r.a := ⟨_, rfl⟩
          obtain ⟨xb, hxb⟩ : ∃ z, z = r.b := ⟨_, rfl⟩
          obtain ⟨xs, hxs⟩ : ∃ z, z = r.stmt := ⟨_, rfl⟩
          have l0 : wr.cell? ⟨rg, j * 5, none⟩ = some (.string kd) := by rw [hkd]; exact hcel 0 (by decide)
          have l1 : wr.cell? ⟨rg, j * 5 + 1, none⟩ = some (.int .i64 xa) := by rw [hxa]; exact hcel 1 (by decide)
          have l2 : wr.cell? ⟨rg, j * 5 + 2, none⟩ = some (.int .i64 xb) := by rw [hxb]; exact hcel 2 (by decide)
          have l3 : wr.cell? ⟨rg, j * 5 + 3, none⟩ = some (.int .i64 xs) := by rw [hxs]; exact hcel 3 (by decide)
          have l4 : wr.cell? ⟨rg, j * 5 + 4, none⟩ = some (.slice ava na avc) := by rw [← hav2]; exact hcel 4 (by decide)
          subst hra1
          have hji : (j : Int) < nr := by omega
          have hnrb : nr ≤ 1000 := by rw [hnr, hrs]; exact hC.rsl
          obtain ⟨W3, hW3⟩ : ∃ W3, W3 = wr.alloc (ruleBox kd xa xb xs (.slice ava na avc)) := ⟨_, rfl⟩
          have hB3 : Below wr.heap.size wr W3 := by rw [hW3]; exact below1 wr _
          obtain ⟨b3, hb3⟩ : ∃ b, b = wr.heap.size := ⟨_, rfl⟩
          have hx3 : W3.heap[b3]? = some (ruleBox kd xa xb xs (.slice ava na avc)) := by rw [hW3, hb3]; exact heap_new wr _
          have hbxr := hS.keep bx _ H8.out.2.2.2.2.2.1 H8.out.2.2.2.2.2.2.1
          have hbx3 := block_keep hB3 hbxr
          have hnbx : ¬ OwnB sb m2 (rK n fs rs o s5 j) bx := fun q => by
            rcases hS.own bx q with q | q
            · exact H8.out.2.2.2.2.2.2.1 q
            · exact Nat.lt_irrefl _ (Nat.lt_of_lt_of_le (Array.getElem?_eq_some_iff.1 H8.out.2.2.2.2.2.1).1 q)
          have hnb3 : ¬ OwnB sb m2 (rK n fs rs o s5 j) b3 := fun q => by
            have h1 := hM.own_lt b3 q
            omega
          have hFK : FunsK wr sb fs m2 (rK n fs rs o s5 j) := HALL.out.1.step (H8.out.2.1.trans hS.toR)
          obtain ⟨fb, ffc, pv, hv2, -⟩ := hFK
          have hFK : FunsK wr sb fs m2 (rK n fs rs o s5 j) := HALL.out.1.step (H8.out.2.1.trans hS.toR)
          obtain ⟨g2, hg2⟩ : ∃ z, z = m2.g := ⟨_, rfl⟩
          obtain ⟨c2, hc2⟩ : ∃ z, z = m2.hc := ⟨_, rfl⟩
          have hblk3 := block_keep hB3 hM.blk
          rw [hhsk, hv2, ← hg2, ← hc2] at hblk3
          have HS3 : Hid (∀ wx, Below W3.heap.size W3 wx → wx.cell? ⟨sb, 3, none⟩ = some (.slice (some ⟨g2, 0, none⟩) n c2) ∧ wx.cell? ⟨sb, 1, none⟩ = some (.slice fb fs.length ffc) ∧ wx.cell? ⟨bx, 1, none⟩ = some (.int .i64 o) ∧ wx.cell? ⟨b3, 0, none⟩ = some (.string kd) ∧ wx.cell? ⟨b3, 1, none⟩ = some (.int .i64 xa) ∧ wx.cell? ⟨b3, 2, none⟩ = some (.int .i64 xb) ∧ wx.cell? ⟨b3, 3, none⟩ = some (.int .i64 xs) ∧ wx.cell? ⟨b3, 4, none⟩ = some (.slice ava na avc)) := fun wx hb => by
            refine ⟨?_, ?_, ?_, ?_, ?_, ?_, ?_, ?_⟩
            · rw [Lib.cell_of_heap (block_keep hb hblk3)]; rfl
            · rw [Lib.cell_of_heap (block_keep hb hblk3)]; rfl
            · rw [Lib.cell_of_heap (block_keep hb hbx3)]; rfl
            all_goals rw [Lib.cell_of_heap (block_keep hb hx3)]; rfl
          have hzo := hC.obj
          have hjo := hC.jo j (by rw [← hrs]; exact hjl)
          rw [← hrs, ← hr, ← H8.out.2.2.2.2.2.2.2.2.2.2.2.2] at hjo
          have hnext := rK_next n fs rs o s5 j hjl
          rw [← hr] at hnext
          have hlen := joinD_lenS n fs r o hC.fp
          have KJ : Hid (∀ wx, Below W3.heap.size W3 wx → Calls Tryz.prog 64 #[.agg #[.string kd, .int .i64 xa, .int .i64 xb, .int .i64 xs, .slice ava na avc], .int .i64 (n : Int), .slice fb fs.length ffc, .int .i64 o, joinSV sb] wx fun e w' => e = .returned (.tuple #[]) ∧ JoinsPost wr B sb fs m2 (rK n fs rs o s5 j) (rK n fs rs o s5 (j + 1)) (joinD n fs r o).length w' ∧ w'.cell? ⟨sb, 3, none⟩ = some (.slice (some ⟨g2, 0, none⟩) n c2) ∧ w'.cell? ⟨sb, 1, none⟩ = some (.slice fb fs.length ffc) ∧ w'.cell? ⟨bx, 1, none⟩ = some (.int .i64 o) ∧ w'.cell? ⟨b3, 0, none⟩ = some (.string kd) ∧ w'.cell? ⟨b3, 1, none⟩ = some (.int .i64 xa) ∧ w'.cell? ⟨b3, 2, none⟩ = some (.int .i64 xb) ∧ w'.cell? ⟨b3, 3, none⟩ = some (.int .i64 xs) ∧ w'.cell? ⟨b3, 4, none⟩ = some (.slice ava na avc)) := fun wx hb => by
            have hbr : Below wr.heap.size wr wx := hB3.trans (hb.mono hB3.size)
            have hMx := hM.below hbr
            have hsx := SolStep.refl hbr sb m2 (rK n fs rs o s5 j)
            have hFx := hFK.step hsx.toR
            have hj := joinRS_any hMx n m2.v2 (hMx.ro wx (fun _ _ q _ => q)).funs r av (fun m' s' wy hs => ⟨(hMx.ro wy hs.keep).funs, hargs m' s' wy (hsx.trans hs)⟩) kd (by rw [hkd, S_toList]) o hzo.1 hzo.2 (by have := hC.few; omega) (hC.call r hmem) hC.fp hFx.at (hC.args r hmem) hjo
              (by have h1 := hC.kn; have h2 := H8.out.2.2.1; omega) (by have h1 := hC.en; have h2 := H8.out.2.2.2.1; omega)
            rw [hv2, hav2, ← hxa, ← hxb, ← hxs, ← hnext] at hj
            refine hj.mono ?_
            rintro e w' ⟨he, m3, q1, q2, q3, q4, q5⟩
            have hst := hsx.trans q2
            have hk1 := q2.keep bx _ (block_keep hb hbx3) hnbx
            have hk3 := q2.keep b3 _ (block_keep hb hx3) hnb3
            have hblk := q1.blk
            have hhs2 : (rK n fs rs o s5 (j + 1)).has.length = n := by unfold rK; rw [(joins_has _ _).1]; exact H8.out.2.2.2.2.2.2.2.2.2.2.2.1
            rw [hst.at_.2.2.2.1, hst.at_.2.2.2.2.2.1, hst.at_.2.1, hv2, ← hg2, ← hc2, hhs2] at hblk
            refine ⟨he, ⟨m3, q1, hst, q3, q4, q5⟩, ?_, ?_, ?_, ?_, ?_, ?_, ?_, ?_⟩
            · rw [Lib.cell_of_heap hblk]; rfl
            · rw [Lib.cell_of_heap hblk]; rfl
            · rw [Lib.cell_of_heap hk1]; rfl
            all_goals rw [Lib.cell_of_heap hk3]; rfl
          have HR : Hid (SolStep w8 wr sb m1 m2 s5 (rK n fs rs o s5 j) ∧ m2.kn ≤ m1.kn + j * 1001000000 ∧ m2.en ≤ m1.en + j * 1001 ∧ m2.rn = m1.rn ∧ (joinD n fs r o).length ≤ 1001) := ⟨hS, hkn, hen, hrn, hlen⟩
          have HW3 : Hid (W3 = wr.alloc (ruleBox kd xa xb xs (.slice ava na avc)) ∧ b3 = wr.heap.size) := ⟨hW3, hb3⟩
          clear hC hrs hnr hrlk hhsk hrow hr hjl hmem hargs harg0 hrB hrh hrnc hrcm hrcs hrtk hrc1 hcel hna hkd hxa hxb hxs hav hav2 hB3 hx3 hbxr hbx3 hnbx hnb3 hFK hv2 hg2 hc2 hblk3 hzo hjo hnext hlen hM hS hkn hen hrn hW3 hb3
          go_upto_region 13 with fail
          rw [← HW3.out.1]
          rw [← HW3.out.2]
          obtain ⟨t3, t1, u1, c0, c1, c2', c3, c4⟩ := HS3.out W3 (Below.refl _ _)
          have hbr : Below W3.heap.size W3 W3 := Below.refl _ _
          clear l0 l1 l2 l3 l4
          go_region_held3 (fun wx => wx.cell? ⟨sb, 3, none⟩ = some (.slice (some ⟨g2, 0, none⟩) n c2) ∧ wx.cell? ⟨sb, 1, none⟩ = some (.slice fb fs.length ffc) ∧ wx.cell? ⟨bx, 1, none⟩ = some (.int .i64 o) ∧ wx.cell? ⟨b3, 0, none⟩ = some (.string kd) ∧ wx.cell? ⟨b3, 1, none⟩ = some (.int .i64 xa) ∧ wx.cell? ⟨b3, 2, none⟩ = some (.int .i64 xb) ∧ wx.cell? ⟨b3, 3, none⟩ = some (.int .i64 xs) ∧ wx.cell? ⟨b3, 4, none⟩ = some (.slice ava na avc))
            ((go_split_ands; first
              | (with_reducible exact ⟨t3, t1, u1, c0, c1, c2', c3, c4⟩)
              | (exact ⟨t3, t1, u1, c0, c1, c2', c3, c4⟩)
              | (refine ⟨?_, ?_, ?_, ?_, ?_, ?_, ?_, ?_⟩ <;> assumption)))
            ((go_at_call 64; refine (KJ.out _ ?_).mono ?_; (first | exact hbr | exact hbr.drew); rintro e w10 ⟨rfl, ⟨m3, q1, q2, q3, q4, q5⟩, hcl⟩))
          all_goals
            have HN2 : Hid (SolM w10 B sb fs m3 (rK n fs rs o s5 (j + 1)) ∧ SolStep w8 w10 sb m1 m3 s5 (rK n fs rs o s5 (j + 1)) ∧ m3.kn ≤ m1.kn + (j + 1) * 1001000000 ∧ m3.en ≤ m1.en + (j + 1) * 1001 ∧ m3.rn = m1.rn) := by
              obtain ⟨u1, u2, u3, u4, u5⟩ := HR.out
              have h1 : (joinD n fs r o).length * 1000000 ≤ 1001 * 1000000 := Nat.mul_le_mul u5 (Nat.le_refl _)
              exact ⟨q1, u1.trans q2, by omega, by omega, by omega⟩
            clear q1 q2 q3 q4 q5 t3 t1 u1 c0 c1 c2' c3 c4
            go_wp2_with fail
            go_roundw
            case rel => exact ⟨j + 1, hlt, by go_num, m3, HN2.out⟩
            case measure => simp [intOf]; omega
        · have hjn : j = nr := by omega
          subst hjn
          have HP : Hid (ObeyPost w B sb fs m s (s.come n fs) wr) := by
            have h1 := H8.out.2.2.1
            have h2 := H8.out.2.2.2.1
            have h3 := H8.out.2.2.2.2.1
            have h4 := HALL.out.2.1.rsl
            rw [← H8.out.2.2.2.2.2.2.2.2.1, ← H8.out.2.2.2.2.2.2.2.2.2.1] at h4
            show ObeyPost _ _ _ _ _ _ _ _
            rw [HFIN.out]
            exact ⟨m2, hM, H8.out.2.1.trans hS.toR, by omega, by omega, by omega⟩
          clear hM hS hkn hen hrn
          go_wp2_with fail
          refine bodyPost_end (results_none rfl _ _ _) rfl ?_
          exact ⟨rfl, HP.out⟩
end Go.Proofs.YtglonlpfnllocaaGreatDoor

/-
  Package solve in memory: Done and Has.
-/
namespace Go.Proofs.YtglonlpfnllocaaGreatDoor
open Go.RowKit Go.Extern.Stop Go.Stop Go.Extern Go.Maps

theorem cloneR_any (zs : List Int) (v : Value) (w : World) (hm : zs.length ≤ 1000000) (h : IsInts w v zs) :
    Calls Tryz.prog 33 #[v] w fun e w' => ∃ a c, e = .returned (.slice a zs.length c) ∧ w'.ownsRow w.heap.size 3 1 (.slice a zs.length c) zs.length (zs.map intV) ∧ Below w.heap.size w w' := by
  rcases h with ⟨rfl, a, c, rfl⟩ | ⟨hz, b, o, c, rfl, hc⟩
  · cases a with
    | none =>
      refine (Tryz.slices_Clone_int_nil 0 c w).mono ?_
      rintro e w' ⟨rfl, rfl⟩
      exact ⟨none, 0, rfl, World.ownsRow_nil _ _ _ _, Below.refl _ _⟩
    | some ad =>
      refine (Tryz.slices_Clone_int_zero ad c w).mono ?_
      rintro e w' ⟨v', rfl, h1, -, h2⟩
      obtain ⟨va, vc, rfl⟩ := owns_form h1
      exact ⟨va, vc, rfl, h1, h2⟩
  · refine (Tryz.slices_Clone_int b o zs.length c zs w (Nat.le_refl _) (by omega) hc).mono ?_
    rintro e w' ⟨v', rfl, h1, -, h2⟩
    rw [List.take_length] at h1
    obtain ⟨va, vc, rfl⟩ := owns_form h1
    exact ⟨va, vc, rfl, h1, h2⟩
/-- Is there nothing more to do? -/
theorem doneS_any {w : World} {B sb : Nat} {fs : List FunD} {m : SolB} {s : SolD} (h : SolM w B sb fs m s) :
    Calls Tryz.prog 14 #[.pointer (some ⟨sb, 0, none⟩)] w fun e w' => e = .returned (.bool (decide (s.due = []))) ∧ w' = w := by
  have t4 : w.cell? ⟨sb, 4, none⟩ = some (.slice m.da s.due.length m.dc) := by rw [Lib.cell_of_heap h.blk]; rfl
  obtain ⟨n, hn⟩ : ∃ n, n = s.due.length := ⟨_, rfl⟩
  have hd : decide (s.due = []) = decide (n = 0) := by
    rw [hn]
    congr 1
    exact propext List.length_eq_zero_iff.symm
  rw [hd]
  rw [← hn] at t4
  clear h hd hn
  by_cases h0 : n = 0
  · subst h0
    go_enter Tryz.func14, Tryz.ntmps14
    go_wp2_with fail
    go_ret
    exact ⟨rfl, rfl⟩
  · have h1 : ¬ (n : Int) = 0 := by omega
    rw [show decide (n = 0) = false from decide_eq_false h0]
    go_enter Tryz.func14, Tryz.ntmps14
    go_wp2_with fail
    go_ret
    exact ⟨by simp [h0], rfl⟩
set_option maxRecDepth 100000 in
set_option maxHeartbeats 4000000 in
/-- What a node has: a row of its own. -/
theorem hasS_any {w : World} {B sb : Nat} {fs : List FunD} {m : SolB} {s : SolD} (h : SolM w B sb fs m s) (k : Int) (hl : ∀ j, (s.has.getD j []).length ≤ 1000000) :
    Calls Tryz.prog 13 #[.pointer (some ⟨sb, 0, none⟩), .int .i64 k] w fun e w' => ∃ v, e = .returned v ∧ IsInts w' v (if 0 ≤ k then setAt s.has k else []) ∧ Below w.heap.size w w' := by
  have t3 : w.cell? ⟨sb, 3, none⟩ = some (.slice (some ⟨m.g, 0, none⟩) s.has.length m.hc) := by rw [Lib.cell_of_heap h.blk]; rfl
  by_cases h0 : 0 ≤ k
  · rw [if_pos h0]
    obtain ⟨X, rfl⟩ : ∃ X : Nat, k = (X : Int) := ⟨k.toNat, by omega⟩
    have hsx : setAt s.has (X : Int) = s.has.getD X [] := by unfold setAt; rw [Int.toNat_natCast]
    rw [hsx]
    by_cases hX : X < s.has.length
    · obtain ⟨ba, bc, hbf⟩ := h.has.form X hX
      have tx := h.has.cell X hX
      have hrow := h.has.own X hX
      rw [hbf] at tx hrow
      have HC : Hid _ := cloneR_any _ _ w (hl X) (isCap_of_owns hrow).1
      obtain ⟨nh, hnh⟩ : ∃ nh, nh = s.has.length := ⟨_, rfl⟩
      obtain ⟨zs, hzs⟩ : ∃ zs, zs = s.has.getD X [] := ⟨_, rfl⟩
      rw [← hnh] at t3 hX
      rw [← hzs] at tx HC ⊢
      obtain ⟨nz, hnz⟩ : ∃ nz, nz = zs.length := ⟨_, rfl⟩
      rw [← hnz] at tx HC
      have h1 : (X : Int) < nh := by omega
      have h2 : ¬ (nh : Int) ≤ X := by omega
      clear h hrow hnh hzs hl hbf hnz hsx hX h0
      go_enter Tryz.func13, Tryz.ntmps13
      go_wp2_with (go_at_call 33; refine Calls.mono HC.out ?_; rintro e w2 ⟨a2, c2, rfl, hv2, hb2⟩)
      go_ret
      exact ⟨.slice a2 nz c2, rfl, (isCap_of_owns hv2).1, hb2⟩
    · have he : s.has.getD X [] = [] := by rw [List.getD_eq_getElem?_getD, List.getElem?_eq_none (Nat.le_of_not_lt hX)]; rfl
      rw [he]
      obtain ⟨nh, hnh⟩ : ∃ nh, nh = s.has.length := ⟨_, rfl⟩
      rw [← hnh] at t3 hX
      have h2 : (nh : Int) ≤ X := by omega
      clear h hl he hsx hnh hX h0
      go_enter Tryz.func13, Tryz.ntmps13
      go_wp2_with fail
      go_ret
      exact ⟨_, rfl, Or.inl ⟨rfl, none, 0, rfl⟩, Below.refl _ _⟩
  · rw [if_neg h0]
    have h1 : k < 0 := by omega
    clear h hl h0 t3
    go_enter Tryz.func13, Tryz.ntmps13
    go_wp2_with fail
    go_ret
    exact ⟨_, rfl, Or.inl ⟨rfl, none, 0, rfl⟩, Below.refl _ _⟩
end Go.Proofs.YtglonlpfnllocaaGreatDoor

/-
  Package solve in memory: so many facts come.
-/
namespace Go.Proofs.YtglonlpfnllocaaGreatDoor
open Go.RowKit Go.Extern.Stop Go.Stop Go.Extern Go.Maps

/-- The state behind so many facts. -/
def comesD (n : Nat) (fs : List FunD) (s : SolD) : Nat → SolD
  | 0 => s
  | k + 1 => (comesD n fs s k).come n fs
/-- Each of the first T facts may come; none is due behind them. -/
def ComesOk (fs : List FunD) (s : SolD) (n T : Nat) : Prop :=
  ∀ k, k ≤ T → (∀ j, j < k → (comesD n fs s j).due ≠ []) → (comesD n fs s k).due ≠ [] → k < T ∧ ∃ X d o, ∀ m' : SolB, m'.kn + 1002000000000 + 1002000000 < maxLen → m'.en + 1002000 + 1002 < maxLen → ComeOk fs m' (comesD n fs s k) n X d o
/-- What Step leaves. -/
def StepPost (w : World) (B sb : Nat) (fs : List FunD) (m : SolB) (s : SolD) (n T : Nat) (K : Int) (e : Ending) (w' : World) : Prop :=
  ∃ k : Nat, e = .returned (.int .i64 k) ∧ k ≤ T ∧ ((k : Int) ≤ K ∨ k = 0) ∧ (∀ j, j < k → (comesD n fs s j).due ≠ []) ∧ ((comesD n fs s k).due = [] ∨ K ≤ (k : Int)) ∧
    ∃ m', SolM w' B sb fs m' (comesD n fs s k) ∧ SolStepR w w' sb m m' s (comesD n fs s k) ∧ m'.kn ≤ m.kn + k * 1002000000000 ∧ m'.en ≤ m.en + k * 1002000 ∧ m'.rn ≤ m.rn + k
set_option maxRecDepth 100000 in
set_option maxHeartbeats 8000000 in
theorem stepS_any {w : World} {B sb : Nat} {fs : List FunD} {m : SolB} {s : SolD} (h : SolM w B sb fs m s) (hF : FunsK w sb fs m s) (n T : Nat) (hT : T ≤ 1000000) (hG : ComesOk fs s n T) (K : Int) (hkn : m.kn ≤ 1000000000000000000) (hen : m.en ≤ 1000000000000) :
    Calls Tryz.prog 16 #[.pointer (some ⟨sb, 0, none⟩), .int .i64 K] w fun e w' => StepPost w B sb fs m s n T K e w' := by
  have H : Hid (SolM w B sb fs m s ∧ FunsK w sb fs m s ∧ ComesOk fs s n T ∧ m.kn ≤ 1000000000000000000 ∧ m.en ≤ 1000000000000) := ⟨h, hF, hG, hkn, hen⟩
  clear h hF hG hkn hen
  go_enter Tryz.func16, Tryz.ntmps16
  go_wp2_with fail
  go_loopw [5] (fun t wr => ∃ k : Nat, k ≤ T ∧ t = .int .i64 k ∧ ((k : Int) ≤ K ∨ k = 0) ∧ (∀ j, j < k → (comesD n fs s j).due ≠ []) ∧ ∃ m', SolM wr B sb fs m' (comesD n fs s k) ∧ SolStepR w wr sb m m' s (comesD n fs s k) ∧ m'.kn ≤ m.kn + k * 1002000000000 ∧ m'.en ≤ m.en + k * 1002000 ∧ m'.rn ≤ m.rn + k) (fun t _ => (T - intOf t).toNat)
  case atStart => exact ⟨0, Nat.zero_le _, rfl, Or.inr rfl, fun j hj => absurd hj (Nat.not_lt_zero _), m, H.out.1, (SolStep.refl (Below.refl _ _) sb m s).toR, Nat.le_add_right _ _, Nat.le_add_right _ _, Nat.le_add_right _ _⟩
  case round =>
    obtain ⟨k, hk, rfl, hkK, hall, m1, hM, hS, hkn, hen, hrn⟩ := hrel
    by_cases hlt : (k : Int) < K
    · by_cases hd : (comesD n fs s k).due = []
      · have KD : Hid (Calls Tryz.prog 14 #[.pointer (some ⟨sb, 0, none⟩)] wr fun e w' => e = .returned (.bool true) ∧ w' = wr) := by
          have := doneS_any hM
          rw [decide_eq_true hd] at this
          exact this
        have HP : Hid (StepPost w B sb fs m s n T K (.returned (.int .i64 (k : Int))) wr) := ⟨k, rfl, hk, hkK, hall, Or.inl hd, m1, hM, hS, hkn, hen, hrn⟩
        clear hM hS hkn hen hrn hd hall hkK
        go_wp2_with (go_at_call 14; refine KD.out.mono ?_; rintro e w2 ⟨rfl, rfl⟩)
        go_ret
        exact HP.out
      · have KD : Hid (Calls Tryz.prog 14 #[.pointer (some ⟨sb, 0, none⟩)] wr fun e w' => e = .returned (.bool false) ∧ w' = wr) := by
          have := doneS_any hM
          rw [decide_eq_false hd] at this
          exact this
        obtain ⟨hkT, X, d, o, hco⟩ := H.out.2.2.1 k hk hall hd
        have h1 : k * 1002000000000 ≤ 1000000 * 1002000000000 := Nat.mul_le_mul (by omega) (Nat.le_refl _)
        have h2 : k * 1002000 ≤ 1000000 * 1002000 := Nat.mul_le_mul (by omega) (Nat.le_refl _)
        have b1 := H.out.2.2.2.1
        have b2 := H.out.2.2.2.2
        have KC : Hid _ := comeS_any hM (H.out.2.1.step hS) n X d o (hco m1 (by unfold maxLen; omega) (by unfold maxLen; omega))
        have HS : Hid (k < T ∧ SolStepR w wr sb m m1 s (comesD n fs s k) ∧ m1.kn ≤ m.kn + k * 1002000000000 ∧ m1.en ≤ m.en + k * 1002000 ∧ m1.rn ≤ m.rn + k ∧ ∀ j, j < k + 1 → (comesD n fs s j).due ≠ []) := ⟨hkT, hS, hkn, hen, hrn, fun j hj => by
          by_cases e : j = k
          · rw [e]; exact hd
          · exact hall j (by omega)⟩
        clear hM hS hkn hen hrn hd hall hkK hco hkT h1 h2 b1 b2
        go_wp2_with (first | (go_at_call 14; refine KD.out.mono ?_; rintro e w2 ⟨rfl, rfl⟩) | (go_at_call 38; refine Calls.mono KC.out ?_; rintro e w3 ⟨rfl, m2, q1, q2, q3, q4, q5⟩))
        go_roundw
        case rel => exact ⟨k + 1, HS.out.1, by have := HS.out.1; go_num, Or.inl (by omega), HS.out.2.2.2.2.2, m2, q1, HS.out.2.1.trans q2, by have := HS.out.2.2.1; omega, by have := HS.out.2.2.2.1; omega, by have := HS.out.2.2.2.2.1; omega⟩
        case measure => have := HS.out.1; simp [intOf]; omega
    · have HP : Hid (StepPost w B sb fs m s n T K (.returned (.int .i64 (k : Int))) wr) := ⟨k, rfl, hk, hkK, hall, Or.inr (by omega), m1, hM, hS, hkn, hen, hrn⟩
      clear hM hS hkn hen hrn hall hkK
      go_wp2_with fail
      go_ret
      exact HP.out
/-- Run: to the end. -/
theorem runS_any {w : World} {B sb : Nat} {fs : List FunD} {m : SolB} {s : SolD} (h : SolM w B sb fs m s) (hF : FunsK w sb fs m s) (n T : Nat) (hT : T ≤ 1000000) (hG : ComesOk fs s n T) (hkn : m.kn ≤ 1000000000000000000) (hen : m.en ≤ 1000000000000) :
    Calls Tryz.prog 10 #[.pointer (some ⟨sb, 0, none⟩)] w fun e w' => StepPost w B sb fs m s n T 9223372036854775807 e w' := by
  have K : Hid _ := stepS_any h hF n T hT hG 9223372036854775807 hkn hen
  clear h hF hG hkn hen
  go_enter Tryz.func10, Tryz.ntmps10
  go_wp2_with fail
  refine Calls.mono K.out ?_
  rintro e w2 ⟨k, rfl, q⟩
  have HQ : Hid (StepPost w B sb fs m s n T 9223372036854775807 (.returned (.int .i64 (k : Int))) w2) := ⟨k, rfl, q⟩
  clear q K
  go_wp2
  go_ret
  exact HQ.out
end Go.Proofs.YtglonlpfnllocaaGreatDoor
