/-
  More objects make no fewer edges; ascending lists of edges: plain.
-/
import Derived.Test.YtimmkenmahagjaaGreatDoorCM
import Derived.Test.YtimmkenmahagjaaGreatDoorSetMath
import Derived.Test.YtimmkenmahagjaaGreatDoorSetD
import Derived.Test.YtimmkenmahagjaaGreatDoorCN
import Derived.Test.YtimmkenmahagjaaGreatDoorPZ2
namespace Go.Proofs.YtimmkenmahagjaaGreatDoor
open Go.RowKit Go.Extern.Stop Go.Stop Go.Extern

/-- Sets with an object more at node n. -/
def moreH (hs : List (List Int)) (n : Nat) (o : Int) : List (List Int) := hs.set n (norm (hs.getD n [] ++ [o]))
theorem moreH_len (hs : List (List Int)) (n : Nat) (o : Int) : (moreH hs n o).length = hs.length := by simp [moreH]
theorem moreH_at (hs : List (List Int)) (n : Nat) (o : Int) (j : Nat) (hj : j < hs.length) : (moreH hs n o).getD j [] = if j = n then norm (hs.getD n [] ++ [o]) else hs.getD j [] := by
  unfold moreH
  by_cases e : j = n
  · subst e
    rw [if_pos rfl]
    simp [List.getD, hj]
  · rw [if_neg e]
    exact getD_set_otherE _ _ _ _ _ (fun q => e q.symm)
theorem getD_mem {zs : List Int} {i : Nat} (h : i < zs.length) : zs.getD i 0 ∈ zs := by simp [List.getD, h]
theorem mem_getD {zs : List Int} {x : Int} (h : x ∈ zs) : ∃ i, i < zs.length ∧ zs.getD i 0 = x := by
  obtain ⟨i, hi, rfl⟩ := List.mem_iff_getElem.1 h
  exact ⟨i, hi, by simp [List.getD, hi]⟩
theorem SetsOk.more {P : ProgD} {hs : List (List Int)} (h : SetsOk P hs) (hc : checkE P = none) (n : Nat) (hn : n < hs.length) (o : Int) (h0 : 0 ≤ o) (h1 : o < (hs.length : Int) + P.funs.length) : SetsOk P (moreH hs n o) := by
  obtain ⟨s1, s2, s3⟩ := right_small hc
  have hpl := places_le P P.stmts.length
  have hlen := h.len
  have hin : InB (hs.getD n [] ++ [o]) := inB_iff.2 fun x hx => by
    rcases List.mem_append.1 hx with q | q
    · exact inB_iff.1 (h.set n hn).1 x q
    · rw [List.mem_singleton.1 q]; omega
  refine ⟨by rw [moreH_len]; exact h.len, fun j hj => ?_, fun j hj i hi => ?_⟩
  · rw [moreH_len] at hj
    rw [moreH_at hs n o j hj]
    split
    · exact isSet_norm hin
    · exact h.set j hj
  · rw [moreH_len] at hj ⊢
    rw [moreH_at hs n o j hj] at hi ⊢
    split at hi
    · rename_i e
      rw [if_pos e]
      have hm := (norm_mem _ _).1 (getD_mem hi)
      rcases List.mem_append.1 hm with q | q
      · obtain ⟨i', hi', he⟩ := mem_getD q
        rw [← he]
        exact h.obj n hn i' hi'
      · rw [List.mem_singleton.1 q]; exact h1
    · rename_i e
      rw [if_neg e]
      exact h.obj j hj i hi
theorem oneE_of {M : Int} {zs : List Int} (h : IsSet zs) (ho : ∀ i, i < zs.length → zs.getD i 0 < M) : oneE M zs = none := by
  unfold oneE
  rw [(inBb_iff zs).2 h.1, (riseb_iff zs).2 h.2]
  have : lastTooB M zs = false := by
    unfold lastTooB
    by_cases hz : 0 < zs.length
    · have := ho (zs.length - 1) (by omega)
      have h2 : ¬ M ≤ zs.getD (zs.length - 1) 0 := by omega
      rw [decide_eq_false h2, Bool.and_false]
    · have : zs.length = 0 := by omega
      simp [this]
  rw [this]
  rfl
theorem setsE_of {M : Int} : ∀ (hs : List (List Int)) (k : Nat), (∀ j, j < hs.length → oneE M (hs.getD j []) = none) → setsE M k hs = none
  | [], _, _ => rfl
  | zs :: r, k, h => by
    have h0 := h 0 (by simp)
    have h0' : oneE M zs = none := by simpa [List.getD] using h0
    unfold setsE
    rw [h0']
    exact setsE_of r (k + 1) (fun j hj => by simpa [List.getD] using h (j + 1) (by simpa using hj))
theorem consE_of {P : ProgD} {hs : List (List Int)} (hc : checkE P = none) (h : SetsOk P hs) : consE P hs = none := by
  unfold consE
  rw [hc]
  dsimp only
  rw [if_pos h.len]
  refine setsE_of hs 0 (fun j hj => oneE_of (h.set j hj) (fun i hi => ?_))
  have := h.obj j hj i hi
  rw [h.len] at this
  omega
theorem follow_more {P : ProgD} {hs : List (List Int)} {n : Nat} {o : Int} (r : RuleD) (p : Pair) (hp : p ∈ followD P hs r) (hr : ¬ askedD r < 0 → (askedD r).toNat < hs.length) : p ∈ followD P (moreH hs n o) r := by
  unfold followD at hp ⊢
  rw [moreH_len]
  rcases List.mem_append.1 hp with q | q
  · exact List.mem_append_left _ q
  · refine List.mem_append_right _ ?_
    by_cases hn : askedD r < 0
    · rw [if_pos hn] at q; cases q
    · rw [if_neg hn] at q ⊢
      obtain ⟨z, hz, hzp⟩ := List.mem_flatMap.1 q
      refine List.mem_flatMap.2 ⟨z, ?_, hzp⟩
      unfold setAt at hz ⊢
      rw [moreH_at hs n o _ (hr hn)]
      split
      · rename_i e
        rw [e] at hz
        exact (norm_mem _ _).2 (List.mem_append_left _ hz)
      · exact hz
theorem found_more {P : ProgD} {hs : List (List Int)} (hc : checkE P = none) (h : SetsOk P hs) (n : Nat) (o : Int) (p : Pair) (hp : p ∈ foundD P hs) : p ∈ foundD P (moreH hs n o) := by
  unfold foundD at hp ⊢
  obtain ⟨r, hr, hrp⟩ := List.mem_flatMap.1 hp
  refine List.mem_flatMap.2 ⟨r, hr, ?_⟩
  obtain ⟨k, hk, rfl⟩ := List.mem_map.1 hr
  exact follow_more _ p hrp (rule_asks h hc k (List.mem_range.1 hk))
/-- An ascending list within another one is no longer. -/
theorem up_length {xs bs : List Pair} (ha : xs.Pairwise ltE) (h : ∀ p ∈ xs, p ∈ bs) : xs.length ≤ bs.length := by
  induction xs generalizing bs with
  | nil => simp
  | cons p r ih =>
    have hp := h p (List.mem_cons_self ..)
    have h1 := List.pairwise_cons.1 ha
    have hlen : (bs.erase p).length + 1 = bs.length := by
      rw [List.length_erase_of_mem hp]
      have := List.length_pos_of_mem hp
      omega
    have := ih (bs := bs.erase p) h1.2 (fun q hq => by
      have hne : q ≠ p := fun e => ltE_irrefl p (by have := h1.1 q hq; rw [e] at this; exact this)
      exact (List.mem_erase_of_ne hne).2 (h q (List.mem_cons_of_mem _ hq)))
    rw [List.length_cons]
    omega
theorem up_at {bs : List Pair} (hb : bs.Pairwise ltE) (i j : Nat) (hij : i < j) (hj : j < bs.length) : ltE (bs.getD i default) (bs.getD j default) := by
  have := List.pairwise_iff_getElem.1 hb i j (by omega) hj hij
  simpa [List.getD, hj, show i < bs.length by omega] using this
/-- Two ascending lists of the same members are one. -/
theorem up_ext {xs bs : List Pair} (ha : xs.Pairwise ltE) (hb : bs.Pairwise ltE) (h : ∀ p, p ∈ xs ↔ p ∈ bs) : xs = bs := by
  induction xs generalizing bs with
  | nil =>
    cases bs with
    | nil => rfl
    | cons q r => exact absurd ((h q).2 (List.mem_cons_self ..)) (by simp)
  | cons p r ih =>
    cases bs with
    | nil => exact absurd ((h p).1 (List.mem_cons_self ..)) (by simp)
    | cons q s =>
      have ha1 := List.pairwise_cons.1 ha
      have hb1 := List.pairwise_cons.1 hb
      have hpq : p = q := by
        rcases List.mem_cons.1 ((h p).1 (List.mem_cons_self ..)) with e | e
        · exact e
        · rcases List.mem_cons.1 ((h q).2 (List.mem_cons_self ..)) with e2 | e2
          · exact e2.symm
          · exact absurd (ltE_trans (ha1.1 q e2) (hb1.1 p e)) (ltE_irrefl p)
      subst hpq
      congr 1
      refine ih ha1.2 hb1.2 (fun x => ?_)
      constructor
      · intro hx
        rcases List.mem_cons.1 ((h x).1 (List.mem_cons_of_mem _ hx)) with e | e
        · exact absurd (by have := ha1.1 x hx; rw [e] at this; exact this) (ltE_irrefl p)
        · exact e
      · intro hx
        rcases List.mem_cons.1 ((h x).2 (List.mem_cons_of_mem _ hx)) with e | e
        · exact absurd (by have := hb1.1 x hx; rw [e] at this; exact this) (ltE_irrefl p)
        · exact e
end Go.Proofs.YtimmkenmahagjaaGreatDoor

/-
  Package set: Union, holds, by contracts.
-/
namespace Go.Proofs.YtimmkenmahagjaaGreatDoor
open Go.RowKit Go.Extern.Stop Go.Stop Go.Extern Go.Sort

theorem inB_append {ys zs : List Int} (h1 : InB ys) (h2 : InB zs) : InB (ys ++ zs) := by
  intro j hj
  rw [List.length_append] at hj
  by_cases h : j < ys.length
  · have := h1 j h
    simpa [List.getD, List.getElem?_append_left h] using this
  · have := h2 (j - ys.length) (by omega)
    simpa [List.getD, List.getElem?_append_right (Nat.le_of_not_lt h)] using this

set_option maxHeartbeats 1000000 in
theorem union_own (ys zs : List Int) (u v : Value) (w : World) (hy : ys.length ≤ 100000) (hz : zs.length ≤ 100000) (h1 : IsInts w u ys) (h2 : IsInts w v zs) (s1 : IsSet ys) (s2 : IsSet zs) :
    Calls Tryz.prog 25 #[u, v] w fun e w' => ∃ v', e = .returned (.tuple #[v', .nilIface]) ∧ IsInts w' v' (norm (ys ++ zs)) ∧ Below w.heap.size w w' ∧ (ys ++ zs ≠ [] → ∀ g, v'.ownBlock = some g → w.heap.size ≤ g) := by
  have H1 : Hid (IsInts w u ys) := h1
  have H2 : Hid (IsInts w v zs) := h2
  have HK : Hid (Calls Tryz.prog 59 #[u, v] w fun e w' => e = .returned .nilIface ∧ Below w.heap.size w w') := pair_ok ys zs u v w (by omega) (by omega) h1 h2 s1 s2
  obtain ⟨ua, uc, rfl⟩ := h1.form
  obtain ⟨va, vc, rfl⟩ := h2.form
  clear h1 h2
  go_enter Tryz.func25, Tryz.ntmps25
  go_wp2_with fail
  refine HK.out.mono ?_
  rintro e w1 ⟨rfl, hB1⟩
  go_wp2_with fail
  have hB1' := fun o => hB1.alloc hB1.size o
  refine (concat_two ys zs _ _ _ _ (by omega) (by omega) (H1.out.below (hB1' _)) (H2.out.below (hB1' _)) (by simp) (by simp)).mono ?_
  rintro e w2 ⟨v2, rfl, hI2, hB2⟩
  have hBw2 : Below w.heap.size w w2 := (hB1' _).trans (hB2.mono (by have := hB1.size; simp; omega))
  have HI : Hid (IsInts w2 v2 (ys ++ zs)) := hI2
  clear hI2 hB2 hB1'
  go_wp2_with fail
  refine (of_own (ys ++ zs) v2 w2 (by simp; omega) HI.out (inB_append s1.1 s2.1)).mono ?_
  rintro e w3 ⟨v3, rfl, hI3, hB3, hO3⟩
  have HX : Hid (IsInts w3 v3 (norm (ys ++ zs)) ∧ Below w.heap.size w w3 ∧ (ys ++ zs ≠ [] → ∀ g, v3.ownBlock = some g → w.heap.size ≤ g)) := ⟨hI3, hBw2.trans (hB3.mono hBw2.size), fun q g hg => Nat.le_trans hBw2.size (hO3 q g hg)⟩
  clear hI3 hB3 hO3
  go_wp2
  go_ret2
  exact ⟨v3, rfl, HX.out⟩
theorem union_ok (ys zs : List Int) (u v : Value) (w : World) (hy : ys.length ≤ 100000) (hz : zs.length ≤ 100000) (h1 : IsInts w u ys) (h2 : IsInts w v zs) (s1 : IsSet ys) (s2 : IsSet zs) :
    Calls Tryz.prog 25 #[u, v] w fun e w' => ∃ v', e = .returned (.tuple #[v', .nilIface]) ∧ IsInts w' v' (norm (ys ++ zs)) ∧ Below w.heap.size w w' :=
  (union_own ys zs u v w hy hz h1 h2 s1 s2).mono fun _ _ ⟨v', q1, q2, q3, _⟩ => ⟨v', q1, q2, q3⟩

/-- holds: is a number one of numbers that do not fall? -/
theorem holds_any (zs : List Int) (v : Value) (x : Int) (w : World) (hm : zs.length ≤ 1000000) (h : IsInts w v zs) (hs : zs.Pairwise (· ≤ ·)) :
    Calls Tryz.prog 70 #[v, .int .i64 x] w fun e w' => e = .returned (.bool (zs.contains x)) ∧ Below w.heap.size w w' := by
  rcases h with ⟨hz, a, c, rfl⟩ | ⟨hz, b, o, c, rfl, hc⟩
  · subst hz
    go_enter Tryz.func70, Tryz.ntmps70
    go_wp2_with fail
    refine (Tryz.slices_BinarySearch_int_empty _ _ _ _).mono ?_
    rintro e w1 ⟨rfl, rfl⟩
    go_wp2
    go_ret
    exact ⟨rfl, Below.refl _ _⟩
  · have HC : Hid (∀ j, j < zs.length → w.cell? ⟨b, o + j, none⟩ = some (.int .i64 (zs.getD j 0))) := hc
    have HS : Hid (zs.Pairwise (· ≤ ·)) := hs
    clear hc hs hz
    go_enter Tryz.func70, Tryz.ntmps70
    go_wp2_with fail
    refine (Tryz.slices_BinarySearch_int b o zs.length c zs x w (Nat.le_refl _) (by omega) HC.out (by rw [List.take_length]; exact HS.out)).mono ?_
    rintro e w1 ⟨rfl, q, rfl⟩
    rw [List.take_length]
    obtain ⟨B, hBe⟩ : ∃ B, B = zs.contains x := ⟨_, rfl⟩
    rw [← hBe]
    have HBe : Hid (B = zs.contains x) := hBe
    clear hBe
    generalize List.countP (fun y => decide (y < x)) zs = C
    go_wp2
    go_ret
    exact ⟨by rw [← HBe.out]; rfl, below_drewN (Below.refl _ _) _⟩

theorem owns_belowS {w w' : World} {B : Nat} {e : TypeId} {k : Nat} {v : Value} {n : Nat} {xs : List Value} (h : w.ownsRow B e k v n xs) (hb : Below w.heap.size w w') : w'.ownsRow B e k v n xs := by
  refine ⟨h.1, ?_⟩
  rcases h.2 with h2 | ⟨g, cap, cur, hv, hg, hh, r⟩
  · exact Or.inl h2
  · have hl : g < w.heap.size := (Array.getElem?_eq_some_iff.1 hh).1
    exact Or.inr ⟨g, cap, cur, hv, hg, by rw [hb.block g hl]; exact hh, r⟩
theorem take_succ_getD (zs : List Int) (k : Nat) (h : k < zs.length) : zs.take (k + 1) = zs.take k ++ [zs.getD k 0] := by
  rw [List.take_succ_eq_append_getElem h]
  simp [List.getD, h]
end Go.Proofs.YtimmkenmahagjaaGreatDoor

/-
  ConsMore: the row of sets that it writes to.
-/
namespace Go.Proofs.YtimmkenmahagjaaGreatDoor
open Go.RowKit Go.Extern.Stop Go.Stop Go.Extern

theorem ne_blockC {w : World} {a b : Nat} {cs ds : Array Value} {T U : TypeId} {f g : Nat × Nat} (h1 : w.heap[a]? = some (.cells cs T f)) (h2 : w.heap[b]? = some (.cells ds U g)) (h : T ≠ U) : a ≠ b := fun e => by
  subst e
  rw [h1] at h2
  injection h2 with h2
  injection h2 with _ h3 _
  exact h h3
/-- The row of sets of one's own. -/
theorem OwnS.rowAt {w : World} {B : Nat} {u : Value} {hs : List (List Int)} {vs : List Value} (h : OwnS w B u hs vs) (hn : 0 < hs.length) : ∃ g cap cs, u = .slice (some ⟨g, 0, none⟩) hs.length cap ∧ B ≤ g ∧ w.heap[g]? = some (.cells cs TSI (0, 0)) ∧ ∀ j, j < hs.length → w.cell? ⟨g, j, none⟩ = some (vs.getD j .nilIface) := by
  rcases h.row.2 with ⟨q, e⟩ | ⟨g, cap, cur, hv, hg, hh, hcap, hmax, hsz, hcur⟩
  · omega
  · refine ⟨g, cap, cur, hv, hg, hh, fun j hj => ?_⟩
    rw [Lib.cell_of_heap hh]
    have h3 : (cur.toList.take (hs.length * 1))[j]? = vs[j]? := by rw [hcur]
    rw [List.getElem?_take_of_lt (by omega)] at h3
    simp only [Array.getElem?_toList] at h3
    rw [h3]
    have : j < vs.length := by rw [h.len]; exact hj
    simp [List.getD, this]
/-- A set of the row is turned into another one. -/
theorem OwnS.put {w : World} {B : Nat} {hs : List (List Int)} {vs : List Value} {g cap : Nat} (h : OwnS w B (.slice (some ⟨g, 0, none⟩) hs.length cap) hs vs) (n : Nat) (hn : n < hs.length) (x : Value) (zs : List Int) (hx : IsInts w x zs) (hxg : x.ownBlock ≠ some g) : IsSets (w.setCell ⟨g, n, none⟩ x) (.slice (some ⟨g, 0, none⟩) hs.length cap) (hs.set n zs) := by
  obtain ⟨g', cap', cs, e, hg, hh, hc⟩ := h.rowAt (by omega)
  cases e
  refine ⟨_, _, by rw [List.length_set], fun j hj => ?_⟩
  rw [List.length_set] at hj
  by_cases e : j = n
  · subst e
    refine ⟨g, 0, x, rfl, ?_, ?_⟩
    · rw [Nat.zero_add]; exact World.cell?_setCell_same _ _ _ (hc j hj)
    · rw [show (hs.set j zs).getD j [] = zs by simp [List.getD, hj]]
      exact isInts_set hx hxg
  · obtain ⟨pa, pc, h1, h2⟩ := h.sets j hj
    refine ⟨g, 0, vs.getD j .nilIface, rfl, ?_, ?_⟩
    · rw [Nat.zero_add, World.cell?_setCell_other _ _ _ _ (fun q => by injection q; omega)]; exact hc j hj
    · rw [getD_set_otherE _ _ _ _ _ (fun q => e q.symm), h1]
      refine isInts_set (isCap_of_owns h2).1 (fun q => ?_)
      rcases h2.2 with ⟨q1, _⟩ | ⟨g2, cap2, cur2, hv2, _, hh2, _⟩
      · rw [q1] at q; cases q
      · rw [hv2] at q
        have hgg : g2 = g := by simpa [Value.ownBlock] using q
        exact ne_blockC hh2 hh (by decide) hgg
end Go.Proofs.YtimmkenmahagjaaGreatDoor

/-
  ConsMore answers true at every program, sets and numbers that read as plain data.
-/
namespace Go.Proofs.YtimmkenmahagjaaGreatDoor
open Go.RowKit Go.Extern.Stop Go.Stop Go.Extern

theorem isSet_one {o : Int} (h0 : 0 ≤ o) (h1 : o < 1000) : IsSet [o] := by
  refine ⟨fun j hj => ?_, fun j hj => by simp at hj⟩
  have : j = 0 := by simp at hj; omega
  subst this
  exact ⟨h0, h1⟩
/-- Two ascending lists, the first within the second. -/
structure Mrg (es bs : List Pair) : Prop where
  ua : es.Pairwise ltE
  ub : bs.Pairwise ltE
  sub : ∀ p ∈ es, p ∈ bs
theorem Mrg.len {es bs : List Pair} (h : Mrg es bs) : es.length ≤ bs.length := up_length h.ua h.sub
theorem mrg_of {P : ProgD} {hs : List (List Int)} {es bs : List Pair} (hc : checkE P = none) (h : SetsOk P hs) (n : Nat) (o : Int) (h1 : EdgeSet (foundD P hs) es) (h2 : EdgeSet (foundD P (moreH hs n o)) bs) : Mrg es bs :=
  ⟨h1.up, h2.up, fun p hp => (h2.mem p).2 ⟨found_more hc h n o p ((h1.mem p).1 hp).1, ((h1.mem p).1 hp).2⟩⟩
/-- None of the first kk is one of those from i on. -/
def MrgI (es bs : List Pair) (kk i : Nat) : Prop := ∀ j, j < kk → ∀ i', i ≤ i' → i' < es.length → bs.getD j default ≠ es.getD i' default
theorem MrgI.at {es bs : List Pair} {kk i : Nat} (h : MrgI es bs kk i) (m : Mrg es bs) (hi : i < es.length) : ∃ p, kk ≤ p ∧ p < bs.length ∧ bs.getD p default = es.getD i default := by
  have hm : es.getD i default ∈ es := by simp [List.getD, hi]
  obtain ⟨p, hp, he⟩ := List.mem_iff_getElem.1 (m.sub _ hm)
  have he' : bs.getD p default = es.getD i default := by rw [← he]; simp [List.getD, hp]
  refine ⟨p, ?_, hp, he'⟩
  by_cases hk : p < kk
  · exact absurd he' (h p hk i (Nat.le_refl _) hi)
  · omega
theorem MrgI.lt {es bs : List Pair} {kk i : Nat} (h : MrgI es bs kk i) (m : Mrg es bs) (hi : i < es.length) : kk < bs.length := by
  obtain ⟨p, h1, h2, _⟩ := h.at m hi
  omega
theorem MrgI.next {es bs : List Pair} {kk i : Nat} (h : MrgI es bs kk i) : MrgI es bs kk (i + 1) := fun j hj i' h1 h2 => h j hj i' (by omega) h2
theorem MrgI.step {es bs : List Pair} {kk i : Nat} (h : MrgI es bs kk i) (m : Mrg es bs) (hi : i < es.length) (hk : kk < bs.length) (hne : bs.getD kk default ≠ es.getD i default) : MrgI es bs (kk + 1) i := fun j hj i' h1 h2 => by
  by_cases e : j = kk
  · subst e
    obtain ⟨p, q1, q2, q3⟩ := h.at m hi
    have hpk : j < p := by
      rcases Nat.lt_or_ge j p with q | q
      · exact q
      · have : j = p := by omega
        exact absurd (by rw [this]; exact q3) hne
    have hlt := up_at m.ub j p hpk q2
    rw [q3] at hlt
    intro e
    rw [e] at hlt
    by_cases ei : i' = i
    · rw [ei] at hlt; exact ltE_irrefl _ hlt
    · exact ltE_irrefl _ (ltE_trans hlt (up_at m.ua i i' (by omega) h2))
  · exact h j (by omega) i' h1 h2

set_option maxRecDepth 100000 in
set_option maxHeartbeats 16000000 in
theorem consMore_any (a : Nat → Addr) (P : ProgD) (v1 v2 v3 hv : Value) (hs : List (List Int)) (nI oI : Int) (w : World) (h : IsProg w v1 v2 v3 P) (hH : IsSets w hv hs) (hE : Errs5 w a) (h3 : Three w a) :
    Calls Tryz.prog 4 #[.agg #[v1, v2, v3], hv, .int .i64 nI, .int .i64 oI] w fun e w' => e = .returned (.bool true) ∧ Below w.heap.size w w' := by
  have H : Hid (IsProg w v1 v2 v3 P ∧ IsSets w hv hs ∧ Errs5 w a ∧ Three w a) := ⟨h, hH, hE, h3⟩
  obtain ⟨⟨a1, c1, rfl, -, -⟩, ⟨a2, c2, rfl, -, -⟩, ⟨a3, c3, rfl, -, -⟩⟩ := h
  obtain ⟨ha, hc, rfl, -⟩ := hH
  obtain ⟨n1, hn1⟩ : ∃ m, m = P.vars.length := ⟨_, rfl⟩
  obtain ⟨n2, hn2⟩ : ∃ m, m = P.funs.length := ⟨_, rfl⟩
  obtain ⟨n3, hn3⟩ : ∃ m, m = P.stmts.length := ⟨_, rfl⟩
  obtain ⟨n, hnn⟩ : ∃ m, m = hs.length := ⟨_, rfl⟩
  have HN : Hid (n1 = P.vars.length ∧ n2 = P.funs.length ∧ n3 = P.stmts.length ∧ n = hs.length) := ⟨hn1, hn2, hn3, hnn⟩
  rw [← hn1, ← hn2, ← hn3] at H ⊢
  rw [← hnn] at H ⊢
  clear hn1 hn2 hn3 hnn hE h3
  obtain ⟨W, hW⟩ : ∃ W, W = w.alloc (.cells #[.slice a1 n1 c1, .slice a2 n2 c2, .slice a3 n3 c3] 26) := ⟨_, rfl⟩
  have hBW : Below w.heap.size w W := by rw [hW]; exact below1 w _
  have HBX : Hid (Box3 W w.heap.size (.slice a1 n1 c1) (.slice a2 n2 c2) (.slice a3 n3 c3)) := by
    show Box3 W _ _ _ _
    rw [hW]; exact box3_new w _ _ _ _
  have K1 : Hid (Calls Tryz.prog 9 #[] W fun e w' => e = .returned (.bool true) ∧ Below W.heap.size W w') := ruled_any a W (H.out.2.2.1.below hBW) (H.out.2.2.2.below hBW)
  rw [hW] at K1
  go_enter Tryz.func4, Tryz.ntmps4
  go_wp2_with fail
  refine K1.out.mono ?_
  rintro e w1 ⟨rfl, hB1⟩
  rw [← hW] at hB1
  clear K1 hW
  obtain ⟨p0, p1, p2⟩ := HBX.out.below hB1
  have hB1w : Below w.heap.size w w1 := hBW.trans (hB1.mono hBW.size)
  go_wp2_with fail
  refine (large_any P _ _ _ w1 (H.out.1.below hB1w)).mono ?_
  rintro e w2 ⟨r, rfl, hr, hB2⟩
  have hB2w : Below w.heap.size w w2 := hB1w.trans (hB2.mono hB1w.size)
  rcases hr with rfl | ⟨rfl, hs1, -⟩
  · go_wp2_with fail
    go_ret
    exact ⟨rfl, hB2w⟩
  have HS : Hid (SmallP P) := hs1
  clear hs1
  replace p0 := cell_keep hB2 p0
  replace p1 := cell_keep hB2 p1
  replace p2 := cell_keep hB2 p2
  go_wp2_with fail
  refine (largeSets_any hs _ w2 (H.out.2.1.below hB2w)).mono ?_
  rintro e w3 ⟨r, rfl, hr, hB3⟩
  have hB3w : Below w.heap.size w w3 := hB2w.trans (hB3.mono hB2w.size)
  rcases hr with rfl | ⟨rfl, hl50, hl60⟩
  · go_wp2_with fail
    go_ret
    exact ⟨rfl, hB3w⟩
  rw [← HN.out.2.2.2] at hl50 hl60
  replace p0 := cell_keep hB3 p0
  replace p1 := cell_keep hB3 p1
  replace p2 := cell_keep hB3 p2
  have HL : Hid (n ≤ 50 ∧ ∀ j, j < n → (hs.getD j []).length ≤ 60) := ⟨hl50, hl60⟩
  clear hl60 hB1 hB2 hB1w hB2w
  by_cases g1 : nI < 0
  · go_wp2_with fail
    go_ret
    exact ⟨rfl, hB3w⟩
  by_cases g2 : (n : Int) ≤ nI
  · go_wp2_with fail
    go_ret
    exact ⟨rfl, hB3w⟩
  by_cases g3 : oI < 0
  · go_wp2_with fail
    go_ret
    exact ⟨rfl, hB3w⟩
  go_wp2_with fail
  refine (objects_any a P _ _ _ w3 HS.out (H.out.1.below hB3w) (H.out.2.2.1.below hB3w)).mono ?_
  rintro e w4 ⟨rfl, hB4⟩
  have hB4w : Below w.heap.size w w4 := hB3w.trans (hB4.mono hB3w.size)
  replace p0 := cell_keep hB4 p0
  replace p1 := cell_keep hB4 p1
  replace p2 := cell_keep hB4 p2
  obtain ⟨O, hO⟩ : ∃ O, O = objD P := ⟨_, rfl⟩
  rw [← hO]
  have HO : Hid (O = objD P) := hO
  clear hO hB4 hB3 hB3w
  by_cases g4 : O ≤ oI
  · go_wp2_with fail
    go_ret
    exact ⟨rfl, hB4w⟩
  go_wp2_with fail
  refine (ownProgram_any P _ _ _ w4 HS.out (H.out.1.below hB4w)).mono ?_
  rintro e w5 ⟨u1, u2, u3, rfl, hq, hB5⟩
  have hB5w : Below w.heap.size w w5 := hB4w.trans (hB5.mono hB4w.size)
  have HQ : Hid (IsProg w5 u1 u2 u3 P) := hq
  obtain ⟨⟨b1, d1, rfl, -, -⟩, ⟨b2, d2, rfl, -, -⟩, ⟨b3, d3, rfl, -, -⟩⟩ := hq
  rw [← HN.out.1, ← HN.out.2.1, ← HN.out.2.2.1] at HQ ⊢
  clear p0 p1 p2 hB5 hB4w HBX hBW
  go_upto_region 5 with fail
  obtain ⟨W6, hW6⟩ : ∃ W6, W6 = w5.alloc (.cells #[.slice b1 n1 d1, .slice b2 n2 d2, .slice b3 n3 d3] 26) := ⟨_, rfl⟩
  have hB56 : Below w5.heap.size w5 W6 := by rw [hW6]; exact below1 w5 _
  have hB6w : Below w.heap.size w W6 := hB5w.trans (hB56.mono hB5w.size)
  have hX6 : Box3 W6 w5.heap.size (.slice b1 n1 d1) (.slice b2 n2 d2) (.slice b3 n3 d3) := by rw [hW6]; exact box3_new w5 _ _ _ _
  rw [← hW6]
  clear hW6
  obtain ⟨qb, hqb⟩ : ∃ b, b = w5.heap.size := ⟨_, rfl⟩
  rw [← hqb] at hX6 ⊢
  clear hqb
  have XQ : Hid (Box3 W6 qb (.slice b1 n1 d1) (.slice b2 n2 d2) (.slice b3 n3 d3)) := hX6
  obtain ⟨y0, y1, y2⟩ := hX6
  have HQ6 : Hid (∀ wx, Below W6.heap.size W6 wx → IsProg wx (.slice b1 n1 d1) (.slice b2 n2 d2) (.slice b3 n3 d3) P ∧ IsSets wx (.slice ha n hc) hs ∧ Errs5 wx a ∧ Three wx a) := fun wx hwx => ⟨(HQ.out.below hB56).below hwx, (H.out.2.1.below hB6w).below hwx, (H.out.2.2.1.below hB6w).below hwx, (H.out.2.2.2.below hB6w).below hwx⟩
  have hsl : hs.length ≤ 1000000 := by have := HN.out.2.2.2; omega
  have hsl2 : ∀ j, j < hs.length → (hs.getD j []).length ≤ 1000000 := fun j hj => by have := HL.out.2 j (by rw [HN.out.2.2.2]; exact hj); omega
  have KO : Hid (∀ wx, Below W6.heap.size W6 wx → Calls Tryz.prog 13 #[.slice ha n hc] wx fun e w' => ∃ ua uc vs, e = .returned (.slice ua n uc) ∧ OwnS w' wx.heap.size (.slice ua n uc) hs vs ∧ Below W6.heap.size W6 w' ∧ Below wx.heap.size wx w') := fun wx hwx => by
    have := ownSets_any hs _ wx (HQ6.out wx hwx).2.1 hsl hsl2
    rw [← HN.out.2.2.2] at this
    exact this.mono fun e w' ⟨ua, uc, vs, r1, r2, r3⟩ => ⟨ua, uc, vs, r1, r2, hwx.trans (r3.mono hwx.size), r3⟩
  have KEd : Hid (∀ wx hs' va vn vc, Below W6.heap.size W6 wx → IsSets wx (.slice va vn vc) hs' → hs'.length ≤ 1000000 → (∀ j, j < hs'.length → (hs'.getD j []).length ≤ 1000000) → Calls Tryz.prog 20 #[.agg #[.slice b1 n1 d1, .slice b2 n2 d2, .slice b3 n3 d3], .slice va vn vc] wx fun e w' => ∃ v ev, e = .returned (.tuple #[v, ev]) ∧ ((consE P hs' = none ∧ ev = .nilIface ∧ ∃ es, IsPairs w' v es ∧ EdgeSet (foundD P hs') es) ∨ ((consE P hs').isNone = false ∧ v = .slice none 0 0 ∧ ErrV w' a (consE P hs') ev)) ∧ Below W6.heap.size W6 w' ∧ Below wx.heap.size wx w') := fun wx hs' va vn vc hwx hi q1 q2 =>
    (edges_any a P _ _ _ _ hs' wx HS.out (HQ6.out wx hwx).1 hi (HQ6.out wx hwx).2.2.1 (HQ6.out wx hwx).2.2.2 q1 q2).mono fun e w' ⟨v, ev, r1, r2, r3⟩ => ⟨v, ev, r1, r2, hwx.trans (r3.mono hwx.size), r3⟩
  have HSL : Hid (hs.length ≤ 1000000 ∧ ∀ j, j < hs.length → (hs.getD j []).length ≤ 1000000) := ⟨hsl, hsl2⟩
  clear hsl hsl2 hB56 hB5w HQ
  go_region_held3 (fun wx => Below W6.heap.size W6 wx ∧ wx.cell? ⟨qb, 0, none⟩ = some (.slice b1 n1 d1) ∧ wx.cell? ⟨qb, 1, none⟩ = some (.slice b2 n2 d2) ∧ wx.cell? ⟨qb, 2, none⟩ = some (.slice b3 n3 d3))
    ((go_split_ands; refine keep3C y0 y1 y2 ?_; repeat (with_reducible first | assumption | exact Below.refl _ _ | refine Below.drew ?_)))
    (first
      | (go_at_call 13; refine (KO.out _ ?_).mono ?_; (go_split_ands; assumption); rintro e w7 ⟨ua, uc, vs, rfl, ho7, hb7, hb7x⟩; have hi7 := ho7.isSets; clear hb7x ho7)
      | (go_at_call 20; refine (KEd.out _ hs _ _ _ ?_ ?_ HSL.out.1 HSL.out.2).mono ?_; (go_split_ands; assumption); (first | exact hi7 | exact hi7.below (Below.refl _ _).drew); rintro e w8 ⟨ev8, er8, rfl, hcase8, hb8, hb8x⟩; clear hb8x))
  rcases hcase8 with ⟨hce, rfl, es, q1, q2⟩ | ⟨hce, rfl, hev⟩
  case inr =>
    have h8 : ∃ t x, er8 = .iface t (.pointer (some x)) := by
      rcases hev.cases with ⟨q, _⟩ | ⟨_, q⟩
      · rw [q] at hce; cases hce
      · exact q
    obtain ⟨t8, x8, rfl⟩ := h8
    clear hev hce
    go_wp2_with fail
    go_ret
    exact ⟨rfl, by first | exact hB6w.trans (hb8.mono hB6w.size) | exact (hB6w.trans (hb8.mono hB6w.size)).drew⟩
  case inl =>
    obtain ⟨hck, hok⟩ := consE_ok hce
    obtain ⟨ea, ec, rfl, hpc⟩ := q1
    obtain ⟨k, rfl⟩ : ∃ k : Nat, nI = (k : Int) := ⟨nI.toNat, by omega⟩
    have hkn : k < n := by omega
    have hOb : oI < (hs.length : Int) + P.funs.length := by
      have h1 := HO.out
      unfold objD at h1
      rw [hck] at h1
      have h2 := hok.len
      simp at h1
      omega
    have HK : Hid (checkE P = none ∧ SetsOk P hs ∧ EdgeSet (foundD P hs) es ∧ k < hs.length ∧ 0 ≤ oI ∧ oI < (hs.length : Int) + P.funs.length ∧ oI < 1000) := ⟨hck, hok, q2, by rw [← HN.out.2.2.2]; exact hkn, by omega, hOb, by
      obtain ⟨s1, s2, s3⟩ := right_small hck
      have hpl := places_le P P.stmts.length
      have hlen := hok.len
      omega⟩
    obtain ⟨la, hla⟩ : ∃ m, m = es.length := ⟨_, rfl⟩
    rw [← hla] at hpc ⊢
    have HLA : Hid (la = es.length) := hla
    clear hck hok q2 hce hOb hla hi7
    have HB8 : Hid (Below W6.heap.size W6 w8) := hb8
    go_wp2_with fail
    refine (KO.out _ (by first | exact HB8.out | exact HB8.out.drew)).mono ?_
    rintro e w9 ⟨ua, uc, vs, rfl, ho9, hb9, hb9x⟩
    obtain ⟨g, cap, cs, hu, hgB, hgh, hgc⟩ := ho9.rowAt (by rw [← HN.out.2.2.2]; omega)
    obtain ⟨rfl, -, rfl⟩ := Value.slice.inj hu
    obtain ⟨pa, pc, hv9, hr9⟩ := ho9.sets k HK.out.2.2.2.1
    have e9 := hgc k HK.out.2.2.2.1
    rw [hv9] at e9
    obtain ⟨m, hm⟩ : ∃ m, m = (hs.getD k []).length := ⟨_, rfl⟩
    have hI9 : IsInts w9 (.slice pa m pc) (hs.getD k []) := by rw [hm]; exact (isCap_of_owns hr9).1
    rw [← hm] at e9
    have hgs : g < w9.heap.size := (Array.getElem?_eq_some_iff.1 hgh).1
    have HO9 : Hid (OwnS w9 w8.heap.size (.slice (some ⟨g, 0, none⟩) n uc) hs vs ∧ IsInts w9 (.slice pa m pc) (hs.getD k []) ∧ w8.heap.size ≤ g ∧ g < w9.heap.size ∧ w9.heap[g]? = some (.cells cs TSI (0, 0)) ∧ Below w8.heap.size w8 w9) := ⟨ho9, hI9, hgB, hgs, hgh, hb9x⟩
    have HSN : Hid (IsSet (hs.getD k []) ∧ IsSet [oI]) := by
      have := (HK.out.2.1.set k HK.out.2.2.2.1)
      exact ⟨this, isSet_one HK.out.2.2.2.2.1 HK.out.2.2.2.2.2.2⟩
    replace y0 := cell_keep hb9 y0
    replace y1 := cell_keep hb9 y1
    replace y2 := cell_keep hb9 y2
    have hki : (k : Int) < n := by omega
    clear ho9 hu hgB hgh hgc hv9 hr9 hI9 hm hb9x hgs
    have KU : Hid (∀ wx, wx = w9.alloc (.cells #[.int .i64 oI] 3) → Calls Tryz.prog 25 #[.slice pa m pc, .slice (some ⟨w9.heap.size, 0, none⟩) 1 1] wx fun e w' => ∃ xa xn xc, e = .returned (.tuple #[.slice xa xn xc, .nilIface]) ∧ IsInts w' (.slice xa xn xc) (norm (hs.getD k [] ++ [oI])) ∧ Below w9.heap.size w9 w' ∧ (∀ g, (Value.slice xa xn xc).ownBlock = some g → w9.heap.size ≤ g)) := fun wx hwx => by
      have hb : Below w9.heap.size w9 wx := by rw [hwx]; exact below1 w9 _
      have hl1 := HSL.out.2 k HK.out.2.2.2.1
      have hl2 := HL.out.2 k hkn
      refine (union_own (hs.getD k []) [oI] _ _ wx (by omega) (by simp) (HO9.out.2.1.below hb) ?_ HSN.out.1 HSN.out.2).mono ?_
      · refine Or.inr ⟨by simp, _, 0, 1, rfl, fun j hj => ?_⟩
        have : j = 0 := by simp at hj; omega
        subst this
        rw [hwx, Lib.cell_of_heap (heap_new w9 _)]
        rfl
      · rintro e w' ⟨v', rfl, hi, hbb, hown⟩
        obtain ⟨xa, xc, rfl⟩ := isInts_form hi
        exact ⟨_, _, _, rfl, hi, hb.trans (hbb.mono hb.size), fun g hg => Nat.le_trans hb.size (hown (by simp) g hg)⟩
    go_wp2_with fail
    refine (KU.out _ rfl).mono ?_
    rintro e w10 ⟨xa, xn, xc, rfl, hx10, hb10, hown⟩
    clear KU
    have hgh10 := block_keep hb10 HO9.out.2.2.2.2.1
    have f10 := Lib.frozen_of_heap hgh10 k
    have e10 := cell_keep hb10 e9
    have hne : (Value.slice xa xn xc).ownBlock ≠ some g := fun q => by have := hown g q; have := HO9.out.2.2.2.1; omega
    have HW : Hid (∀ wS, wS = w10.setCell ⟨g, k, none⟩ (.slice xa xn xc) → Below W6.heap.size W6 wS ∧ Below w8.heap.size w8 wS ∧ IsSets wS (.slice (some ⟨g, 0, none⟩) n uc) (moreH hs k oI)) := fun wS hwS => by
      have hb810 : Below w8.heap.size w8 w10 := HO9.out.2.2.2.2.2.trans (hb10.mono HO9.out.2.2.2.2.2.size)
      have hb8S : Below w8.heap.size w8 wS := by rw [hwS]; exact hb810.setCell HO9.out.2.2.1 _
      refine ⟨HB8.out.trans (hb8S.mono HB8.out.size), hb8S, ?_⟩
      rw [hwS]
      have h10 := HO9.out.1.below hb10
      have := HN.out.2.2.2
      rw [this] at h10 ⊢
      exact h10.put k HK.out.2.2.2.1 _ _ hx10 hne
    clear hgh10 hne hown hx10 HO9 hb10 e9 y0 y1 y2 hb9
    go_upto_region 13 with fail
    obtain ⟨wS, hwS⟩ : ∃ wS, wS = w10.setCell ⟨g, k, none⟩ (.slice xa xn xc) := ⟨_, rfl⟩
    rw [← hwS]
    obtain ⟨hbS, hb8S, hiS⟩ := HW.out wS hwS
    obtain ⟨y0, y1, y2⟩ := XQ.out.below hbS
    have HIS : Hid (IsSets wS (.slice (some ⟨g, 0, none⟩) n uc) (moreH hs k oI)) := hiS
    have HBS : Hid (Below W6.heap.size W6 wS ∧ Below w8.heap.size w8 wS) := ⟨hbS, hb8S⟩
    have HOK2 : Hid (SetsOk P (moreH hs k oI) ∧ (moreH hs k oI).length ≤ 1000000 ∧ ∀ j, j < (moreH hs k oI).length → ((moreH hs k oI).getD j []).length ≤ 1000000) := by
      refine ⟨HK.out.2.1.more HK.out.1 k HK.out.2.2.2.1 oI HK.out.2.2.2.2.1 HK.out.2.2.2.2.2.1, by rw [moreH_len]; exact HSL.out.1, fun j hj => ?_⟩
      rw [moreH_len] at hj
      rw [moreH_at hs k oI j hj]
      have h60 := HL.out.2 k hkn
      split
      · have := norm_length_le (hs.getD k [] ++ [oI])
        rw [List.length_append, List.length_singleton] at this
        omega
      · exact HSL.out.2 j hj
    clear HW hwS hiS hbS hb8S f10 e10
    go_wp2_with fail
    refine (KEd.out wS (moreH hs k oI) _ _ _ HBS.out.1 HIS.out HOK2.out.2.1 HOK2.out.2.2).mono ?_
    rintro e w11 ⟨ev11, er11, rfl, hcase11, hb11, hb11x⟩
    rcases hcase11 with ⟨-, rfl, bs, q1, q2⟩ | ⟨hce, -, -⟩
    case inr =>
      rw [consE_of HK.out.1 HOK2.out.1] at hce
      cases hce
    obtain ⟨ba, bc, rfl, hpb⟩ := q1
    have HM : Hid (Mrg es bs) := mrg_of HK.out.1 HK.out.2.1 k oI HK.out.2.2.1 q2
    obtain ⟨lb, hlb⟩ : ∃ m, m = bs.length := ⟨_, rfl⟩
    rw [← hlb] at hpb ⊢
    have HLB : Hid (lb = bs.length) := hlb
    have hlen : ¬ (lb : Int) < la := by
      have := HM.out.len
      have := HLB.out
      have := HLA.out
      omega
    have hlb6 : lb ≤ 100000 := by
      rw [HLB.out]
      exact Nat.le_trans (up_length q2.up (fun p hp => ((q2.mem p).1 hp).1)) (foundD_len HOK2.out.1 HK.out.1)
    have hla6 : la ≤ 100000 := by omega
    have hb8t : Below w8.heap.size w8 w11 := HBS.out.2.trans (hb11x.mono HBS.out.2.size)
    have HCE : Hid (∀ wx, Below w11.heap.size w11 wx → (∀ j, j < la → ∃ g, ea = some ⟨g, 0, none⟩ ∧ wx.cell? ⟨g, j * 2, none⟩ = some (.int .i64 (es.getD j default).1) ∧ wx.cell? ⟨g, j * 2 + 1, none⟩ = some (.int .i64 (es.getD j default).2)) ∧ (∀ j, j < lb → ∃ g, ba = some ⟨g, 0, none⟩ ∧ wx.cell? ⟨g, j * 2, none⟩ = some (.int .i64 (bs.getD j default).1) ∧ wx.cell? ⟨g, j * 2 + 1, none⟩ = some (.int .i64 (bs.getD j default).2))) := fun wx hwx => by
      refine ⟨fun j hj => ?_, fun j hj => ?_⟩
      · obtain ⟨g, h1, h2, h3⟩ := hpc j hj
        exact ⟨g, h1, cell_keep hwx (cell_keep hb8t h2), cell_keep hwx (cell_keep hb8t h3)⟩
      · obtain ⟨g, h1, h2, h3⟩ := hpb j hj
        exact ⟨g, h1, cell_keep hwx h2, cell_keep hwx h3⟩
    have HBW : Hid (Below w.heap.size w w11) := hB6w.trans (hb11.mono hB6w.size)
    clear hpc hpb q2 hlb hb8t hb11 hb11x HIS HOK2 HBS y0 y1 y2
    go_wp2_with fail
    go_loopw [18, 19] (fun t18 t19 wr => ∃ (kk i : Nat), t18 = .int .i64 kk ∧ t19 = .int .i64 i ∧ i ≤ la ∧ kk ≤ lb ∧ MrgI es bs kk i ∧ Below w11.heap.size w11 wr) (fun _ t19 _ => (la - intOf t19).toNat)
    case atStart => exact ⟨0, 0, rfl, rfl, Nat.zero_le _, Nat.zero_le _, fun j hj => absurd hj (Nat.not_lt_zero _), Below.refl _ _⟩
    case round =>
      obtain ⟨kk, i, rfl, rfl, hi, hkk, hI, hwr⟩ := hrel
      by_cases hlt : i < la
      · have hii : (i : Int) < la := by omega
        obtain ⟨w0, hw0⟩ : ∃ w0, w0 = wr := ⟨_, rfl⟩
        rw [← hw0] at hwr ⊢
        have HI : Hid (MrgI es bs kk i ∧ Below w11.heap.size w11 w0) := ⟨hI, hwr⟩
        clear hI hwr hw0
        go_wp2_with fail
        go_loopw [18] (fun t18 wr => ∃ (kk : Nat), t18 = .int .i64 kk ∧ kk ≤ lb ∧ MrgI es bs kk i ∧ Below w11.heap.size w11 wr) (fun t18 _ => (lb - intOf t18).toNat)
        case atStart => exact ⟨kk, rfl, hkk, HI.out.1, HI.out.2⟩
        case round =>
          clear HI hkk
          obtain ⟨k2, rfl, hk2, hI, hwr⟩ := hrel
          have hk2l : k2 < lb := by
            have := hI.lt HM.out (by rw [← HLA.out]; exact hlt)
            rw [HLB.out]; exact this
          obtain ⟨c1, c2⟩ := HCE.out _ hwr
          obtain ⟨ga, rfl, e0, e1⟩ := c1 i hlt
          obtain ⟨gb, rfl, d0, d1⟩ := c2 k2 hk2l
          clear c1 c2
          have hki2 : (k2 : Int) < lb := by omega
          have HEQ := run_eqInE (bs.getD k2 default) (es.getD i default)
          have HGD := fun op a b => run_guardE op a b (bs.getD k2 default) (es.getD i default)
          obtain ⟨D, hD⟩ : ∃ D, D = eqE (bs.getD k2 default) (es.getD i default) := ⟨_, rfl⟩
          rw [← hD] at HEQ
          have HD : Hid (D = eqE (bs.getD k2 default) (es.getD i default)) := hD
          obtain ⟨x1, hx1⟩ : ∃ z, z = (es.getD i default).1 := ⟨_, rfl⟩
          obtain ⟨x2, hx2⟩ : ∃ z, z = (es.getD i default).2 := ⟨_, rfl⟩
          obtain ⟨z1, hz1⟩ : ∃ z, z = (bs.getD k2 default).1 := ⟨_, rfl⟩
          obtain ⟨z2, hz2⟩ : ∃ z, z = (bs.getD k2 default).2 := ⟨_, rfl⟩
          rw [← hx1] at e0 HEQ HGD
          rw [← hx2] at e1 HEQ HGD
          rw [← hz1] at d0 HEQ HGD
          rw [← hz2] at d1 HEQ HGD
          have HI : Hid (MrgI es bs k2 i) := hI
          clear hD hx1 hx2 hz1 hz2 hI
          go_upto_region 20 with fail
          go_quiet (fail)
          generalize hwq : World.drewN wr _ = wq
          have hBq : Below w11.heap.size w11 wq := by rw [← hwq]; exact below_drewN hwr _
          clear hwq e0 e1 d0 d1 HEQ HGD
          cases D with
          | false =>
            go_wp2_with fail
            go_roundw
            case rel => exact ⟨k2 + 1, by go_num, hk2l, HI.out.step HM.out (by rw [← HLA.out]; exact hlt) (by rw [← HLB.out]; exact hk2l) (fun q => by have := HD.out; rw [(eqE_iff _ _).2 q] at this; cases this), hBq⟩
            case measure => simp [intOf]; omega
          | true =>
            have hkne : ((k2 : Int) == lb) = false := by simp; omega
            go_wp2_with fail
            go_roundw
            case rel => exact ⟨k2, i + 1, rfl, by go_num, hlt, hk2, HI.out.next, hBq⟩
            case measure => simp [intOf]; omega
      · have hila : i = la := by omega
        subst hila
        clear hI
        go_wp2_with fail
        go_ret
        exact ⟨rfl, HBW.out.trans (hwr.mono HBW.out.size)⟩
end Go.Proofs.YtimmkenmahagjaaGreatDoor
