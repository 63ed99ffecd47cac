/-
  A program is read as it was written: plain facts about texts. No program of Go in this text.
-/
import Derived.Test.YtimmkenmahagjaaGreatDoorPM
namespace Go.Proofs.YtimmkenmahagjaaGreatDoor
open Go

theorem pre_self (p s : Bs) : Lib.hasPrefix (p ++ s) p = true := List.isPrefixOf_iff_prefix.2 (List.prefix_append _ _)
theorem trim_self (p s : Bs) : Lib.trimPrefix (p ++ s) p = s := by
  unfold Lib.trimPrefix
  rw [pre_self]; simp
theorem pre_false {p s : Bs} (h : ∀ r, s ≠ p ++ r) : Lib.hasPrefix s p = false := by
  cases e : Lib.hasPrefix s p with
  | false => rfl
  | true =>
    obtain ⟨r, hr⟩ := List.isPrefixOf_iff_prefix.1 e
    exact absurd hr.symm (h r)
theorem trim_false {p s : Bs} (h : Lib.hasPrefix s p = false) : Lib.trimPrefix s p = s := by
  unfold Lib.trimPrefix
  rw [h]; rfl

theorem occ_here (a sb b : Bs) : Lib.occAt (a ++ sb ++ b) sb a.length = true := by
  unfold Lib.occAt
  rw [List.append_assoc, List.drop_left]
  exact List.isPrefixOf_iff_prefix.2 (List.prefix_append _ _)
theorem occ_not (c : UInt8) (t a b : Bs) (h : c ∉ a) (j : Nat) (hj : j < a.length) : Lib.occAt (a ++ b) (c :: t) j = false := by
  cases e : Lib.occAt (a ++ b) (c :: t) j with
  | false => rfl
  | true =>
    have := Lib.occAt_head (s := a ++ b) (sub := c :: t) (i := j) rfl e
    rw [List.getElem?_append_left hj] at this
    exact absurd (List.mem_of_getElem? this) h
theorem index_at (c : UInt8) (t a b : Bs) (h : c ∉ a) : Lib.index (a ++ (c :: t) ++ b) (c :: t) = a.length := by
  refine Lib.index_first (by simp) (occ_here a (c :: t) b) (fun j hj => ?_)
  rw [List.append_assoc]
  exact occ_not c t a _ h j hj
theorem index_no (c : UInt8) (t a : Bs) (h : c ∉ a) : Lib.index a (c :: t) = -1 := by
  refine Lib.index_none (fun j hj => ?_)
  cases e : Lib.occAt a (c :: t) j with
  | false => rfl
  | true => exact absurd (List.mem_of_getElem? (Lib.occAt_head (s := a) (sub := c :: t) (i := j) rfl e)) h
theorem cut_at (c : UInt8) (t a b : Bs) (h : c ∉ a) : Lib.cut (a ++ (c :: t) ++ b) (c :: t) = (a, b, true) := by
  unfold Lib.cut
  rw [index_at c t a b h, if_pos (by omega)]
  have h1 : (a ++ (c :: t) ++ b).take ((a.length : Int)).toNat = a := by
    rw [Int.toNat_natCast, List.append_assoc, List.take_left]
  have h2 : (a ++ (c :: t) ++ b).drop (((a.length : Int)).toNat + (c :: t).length) = b := by
    rw [Int.toNat_natCast, show a.length + (c :: t).length = (a ++ (c :: t)).length by simp, List.drop_left]
  rw [h1, h2]
theorem cut_no (c : UInt8) (t a : Bs) (h : c ∉ a) : Lib.cut a (c :: t) = (a, [], false) := by
  unfold Lib.cut
  rw [index_no c t a h, if_neg (by omega)]

/-- A byte's first place. -/
theorem split_first (c : UInt8) (s : Bs) : c ∉ s ∨ ∃ a b, s = a ++ c :: b ∧ c ∉ a := by
  induction s with
  | nil => left; simp
  | cons x r ih =>
    by_cases hx : x = c
    · right; exact ⟨[], r, by rw [hx]; rfl, by simp⟩
    · rcases ih with h | ⟨a, b, rfl, h⟩
      · left; intro e; rcases List.mem_cons.1 e with g | g
        · exact hx g.symm
        · exact h g
      · right
        refine ⟨x :: a, b, rfl, ?_⟩
        intro e; rcases List.mem_cons.1 e with g | g
        · exact hx g.symm
        · exact h g

theorem linesOf_no (s : Bs) (h : (10 : UInt8) ∉ s) : linesOf s = ([], s) := by
  induction s with
  | nil => rfl
  | cons x r ih =>
    have hx : x ≠ 10 := fun e => h (by rw [e]; exact List.mem_cons_self ..)
    have := ih (fun e => h (List.mem_cons_of_mem _ e))
    rw [linesOf, if_neg hx, this]
theorem linesOf_at (a b : Bs) (h : (10 : UInt8) ∉ a) : linesOf (a ++ 10 :: b) = (a :: (linesOf b).1, (linesOf b).2) := by
  induction a with
  | nil => rw [List.nil_append, linesOf, if_pos rfl]
  | cons x r ih =>
    have hx : x ≠ 10 := fun e => h (by rw [e]; exact List.mem_cons_self ..)
    have := ih (fun e => h (List.mem_cons_of_mem _ e))
    rw [List.cons_append, linesOf, if_neg hx, this]
theorem linesOf_ended (ls : List Bs) (s : Bs) (h : ∀ l ∈ ls, (10 : UInt8) ∉ l) : linesOf (ended ls ++ s) = (ls ++ (linesOf s).1, (linesOf s).2) := by
  induction ls with
  | nil => rfl
  | cons l r ih =>
    have h1 := ih (fun x hx => h x (List.mem_cons_of_mem _ hx))
    have h2 : ended (l :: r) ++ s = l ++ 10 :: (ended r ++ s) := by simp [ended]
    rw [h2, linesOf_at l _ (h l (List.mem_cons_self ..)), h1]
    rfl

/-- A name's letters. -/
def nmC (c : UInt8) : Bool := isLet c || isDig c
theorem isNm_parts {l : Bs} (h : isNm l = true) : l ≠ [] ∧ (∀ c ∈ l, nmC c = true) ∧ l ≠ kVar ∧ l ≠ kFn ∧ l ≠ kNew ∧ l ≠ kCall ∧ l.length ≤ 8 ∧ isLet (l.headD 0) = true := by
  unfold isNm at h
  simp only [Bool.and_eq_true, Bool.not_eq_true', decide_eq_true_eq, List.all_eq_true] at h
  obtain ⟨⟨⟨⟨⟨⟨⟨h1, h2⟩, h3⟩, h4⟩, h5⟩, h6⟩, h7⟩, h8⟩ := h
  refine ⟨fun e => by rw [e] at h1; exact absurd h1 (by decide), h4, ?_, ?_, ?_, ?_, h2, h3⟩
  · exact fun e => by rw [e] at h5; exact absurd h5 (by decide)
  · exact fun e => by rw [e] at h6; exact absurd h6 (by decide)
  · exact fun e => by rw [e] at h7; exact absurd h7 (by decide)
  · exact fun e => by rw [e] at h8; exact absurd h8 (by decide)
theorem isNm_not {l : Bs} (h : isNm l = true) (c : UInt8) (hc : nmC c = false) : c ∉ l := fun e => by
  have := (isNm_parts h).2.1 c e
  rw [hc] at this; cases this
theorem isNm_nil : isNm [] = false := rfl

theorem first_eq (c : UInt8) (p x r q : Bs) (hp : c ∉ p) (hx : c ∉ x) (h : x ++ c :: r = p ++ c :: q) : p = x := by
  induction p generalizing x with
  | nil =>
    cases x with
    | nil => rfl
    | cons a x =>
      have : a = c := (List.cons.inj h).1
      exact absurd (by rw [this]; exact List.mem_cons_self ..) hx
  | cons b p ih =>
    cases x with
    | nil =>
      have : c = b := (List.cons.inj h).1
      exact absurd (by rw [this]; exact List.mem_cons_self ..) hp
    | cons a x =>
      obtain ⟨h1, h2⟩ := List.cons.inj h
      rw [h1, ih x (fun e => hp (List.mem_cons_of_mem _ e)) (fun e => hx (List.mem_cons_of_mem _ e)) h2]

/-- A line that begins with a name and a blank is none of var and fn. -/
theorem line_var {x r : Bs} (h : isNm x = true) : Lib.hasPrefix (x ++ 32 :: r) [118, 97, 114, 32] = false := by
  refine pre_false (fun q e => ?_)
  have := first_eq 32 kVar x r q (by decide) (isNm_not h 32 (by decide)) (by rw [e]; rfl)
  exact (isNm_parts h).2.2.1 this.symm
theorem line_fn {x r : Bs} (h : isNm x = true) : Lib.hasPrefix (x ++ 32 :: r) [102, 110, 32] = false := by
  refine pre_false (fun q e => ?_)
  have := first_eq 32 kFn x r q (by decide) (isNm_not h 32 (by decide)) (by rw [e]; rfl)
  exact (isNm_parts h).2.2.2.1 this.symm
theorem pre_head {x : Bs} (h : isNm x = true) (c : UInt8) (hc : nmC c = false) (r t : Bs) : Lib.hasPrefix (x ++ r) (c :: t) = false := by
  refine pre_false (fun q e => ?_)
  cases x with
  | nil => cases h
  | cons a x =>
    have ha : a = c := (List.cons.inj e).1
    exact isNm_not h c hc (by rw [ha]; exact List.mem_cons_self ..)
theorem pre_name {x : Bs} (h : isNm x = true) (p : Bs) (c : UInt8) (hc : nmC c = false) (hp : c ∈ p) : Lib.hasPrefix x p = false := by
  refine pre_false (fun q e => ?_)
  exact isNm_not h c hc (by rw [e]; exact List.mem_append_left _ hp)

theorem idxFrom_at (i : Nat) (l : List Bs) (k : Nat) (hk : k < l.length) (hd : dup l = false) : idxFrom i l (l.getD k []) = ((i + k : Nat) : Int) := by
  induction l generalizing i k with
  | nil => exact absurd hk (Nat.not_lt_zero _)
  | cons z r ih =>
    unfold dup at hd
    rw [Bool.or_eq_false_iff] at hd
    cases k with
    | zero => simp [idxFrom]
    | succ k =>
      have hk' : k < r.length := by simpa using hk
      have hne : z ≠ r.getD k [] := fun e => by
        have : r.contains z = true := by
          rw [List.contains_iff_mem, e]
          simp [List.getD, hk']
        rw [hd.1] at this; cases this
      have h2 : (z :: r).getD (k + 1) [] = r.getD k [] := by simp [List.getD]
      rw [h2, idxFrom, if_neg hne, ih (i + 1) k hk' hd.2]
      congr 1; omega
theorem idx_at (l : List Bs) (k : Int) (h0 : 0 ≤ k) (hk : k < l.length) (hd : dup l = false) : idx l (l.getD k.toNat []) = k := by
  unfold idx
  rw [idxFrom_at 0 l k.toNat (by omega) hd]
  omega

theorem all_at {α : Type} {p : α → Bool} {l : List α} (h : l.all p = true) (k : Nat) (d : α) (hk : k < l.length) : p (l.getD k d) = true := by
  have := List.all_eq_true.1 h l[k] (List.getElem_mem hk)
  simpa [List.getD, hk] using this

/-- What a right program is. -/
structure Right (P : ProgD) : Prop where
  vn : P.vars.all isNm = true
  fn : (fnames P).all isNm = true
  vd : dup P.vars = false
  fd : dup (fnames P) = false
  fp : ∀ f ∈ P.funs, f.params.all (varB P) = true ∧ varB P f.ret = true
  st : ∀ s ∈ P.stmts, stmtE P s = none
theorem stmtsE_none (P : ProgD) : ∀ (l : List StmtD) (k : Nat), stmtsE P k l = none → ∀ s ∈ l, stmtE P s = none
  | [], _, _, s, hs => by cases hs
  | t :: r, k, h, s, hs => by
    unfold stmtsE at h
    cases e : stmtE P t with
    | some x => rw [e] at h; cases h
    | none =>
      rw [e] at h
      rcases List.mem_cons.1 hs with g | g
      · rw [g]; exact e
      · exact stmtsE_none P r (k + 1) h s g
theorem right_of {P : ProgD} (h : checkE P = none) : Right P := by
  unfold checkE at h
  by_cases hf : fullB P = true
  · rw [if_pos hf] at h; cases h
  rw [if_neg hf] at h
  cases hn : namesE P.vars (fnames P) with
  | some e => rw [hn] at h; cases h
  | none =>
    rw [hn] at h
    cases hu : funsE P with
    | some e => rw [hu] at h; cases h
    | none =>
      rw [hu] at h
      unfold namesE at hn
      split at hn
      · cases hn
      rename_i h1
      split at hn
      · cases hn
      rename_i h2
      unfold funsE at hu
      split at hu
      · cases hu
      split at hu
      · cases hu
      rename_i h3
      simp only [Bool.or_eq_true, Bool.not_eq_true', not_or, Bool.not_eq_false, Bool.not_eq_true] at h1 h2 h3
      refine ⟨h1.1, h1.2, h2.1, h2.2, fun f hf => ?_, stmtsE_none P _ 0 h⟩
      have := List.all_eq_true.1 h3 f hf
      rwa [Bool.and_eq_true] at this
theorem varB_parts {P : ProgD} {k : Int} (h : varB P k = true) : 0 ≤ k ∧ k < (P.vars.length : Int) := by
  unfold varB at h
  simpa using h
theorem funB_parts {P : ProgD} {k : Int} (h : funB P k = true) : 0 ≤ k ∧ k < (P.funs.length : Int) := by
  unfold funB at h
  simpa using h
theorem Right.name {P : ProgD} (h : Right P) {k : Int} (hk : varB P k = true) : isNm (nameOf P k) = true := by
  have := varB_parts hk
  exact all_at h.vn k.toNat [] (by omega)
theorem Right.idx {P : ProgD} (h : Right P) {k : Int} (hk : varB P k = true) : idx P.vars (nameOf P k) = k := by
  have := varB_parts hk
  exact idx_at _ k this.1 this.2 h.vd
theorem Right.fname {P : ProgD} (h : Right P) {k : Int} (hk : funB P k = true) : isNm (funOf P k) = true := by
  have := funB_parts hk
  exact all_at h.fn k.toNat [] (by unfold fnames; rw [List.length_map]; omega)
theorem Right.fidx {P : ProgD} (h : Right P) {k : Int} (hk : funB P k = true) : Go.Proofs.YtimmkenmahagjaaGreatDoor.idx (fnames P) (funOf P k) = k := by
  have := funB_parts hk
  exact idx_at _ k this.1 (by unfold fnames; rw [List.length_map]; exact this.2) h.fd

/-- The names in brackets, cut again. -/
theorem join_split (x : Bs) (r : List Bs) (h : ∀ y ∈ x :: r, (44 : UInt8) ∉ y) : Lib.split (Lib.join (x :: r) sep) sep = x :: r := by
  have key : ∀ (r : List Bs) (x : Bs), (∀ y ∈ x :: r, (44 : UInt8) ∉ y) → Lib.count (x ++ Lib.joinTail sep r) sep = r.length ∧ Lib.splitK sep 0 r.length (x ++ Lib.joinTail sep r) = x :: r := by
    intro r
    induction r with
    | nil =>
      intro x h
      have h1 : Lib.index (x ++ Lib.joinTail sep []) sep = -1 := by
        have : x ++ Lib.joinTail sep [] = x := by simp [Lib.joinTail]
        rw [this]; exact index_no 44 [32] x (h x (List.mem_cons_self ..))
      refine ⟨Lib.count_miss h1, ?_⟩
      show [x ++ Lib.joinTail sep []] = [x]
      simp [Lib.joinTail]
    | cons y r ih =>
      intro x h
      have h0 : x ++ Lib.joinTail sep (y :: r) = x ++ sep ++ (y ++ Lib.joinTail sep r) := by simp [Lib.joinTail]
      have h1 : Lib.index (x ++ Lib.joinTail sep (y :: r)) sep = (x.length : Int) := by
        rw [h0]; exact index_at 44 [32] x _ (h x (List.mem_cons_self ..))
      obtain ⟨i1, i2⟩ := ih y (fun z hz => h z (List.mem_cons_of_mem _ hz))
      have h2 : (x ++ Lib.joinTail sep (y :: r)).drop (x.length + sep.length) = y ++ Lib.joinTail sep r := by
        rw [h0, show x.length + sep.length = (x ++ sep).length by simp, List.drop_left]
      have h3 : (x ++ Lib.joinTail sep (y :: r)).take x.length = x := by
        rw [h0, List.append_assoc, List.take_left]
      constructor
      · rw [Lib.count_hit (by decide) h1, h2, i1, List.length_cons]; omega
      · rw [List.length_cons, Lib.splitK, if_neg (by rw [h1, beq_iff_eq]; omega), h1, Int.toNat_natCast, Nat.add_zero, h2, h3, i2]
  obtain ⟨h1, h2⟩ := key r x h
  rw [Lib.join_cons]
  unfold Lib.split
  rw [h1, h2]

theorem join_no (c : UInt8) (ls : List Bs) (hc : c ≠ 44) (hc2 : c ≠ 32) (h : ∀ y ∈ ls, c ∉ y) : c ∉ Lib.join ls sep := by
  cases ls with
  | nil => simp [Lib.join_nil]
  | cons x r =>
    rw [Lib.join_cons]
    intro e
    rcases List.mem_append.1 e with g | g
    · exact h x (List.mem_cons_self ..) g
    · unfold Lib.joinTail at g
      obtain ⟨l, hl, hcl⟩ := List.mem_flatten.1 g
      obtain ⟨y, hy, rfl⟩ := List.mem_map.1 hl
      rcases List.mem_append.1 hcl with q | q
      · have : c = 44 ∨ c = 32 := by simpa [sep] using q
        rcases this with t | t
        · exact hc t
        · exact hc2 t
      · exact h y (List.mem_cons_of_mem _ hy) q
theorem join_ne (x : Bs) (r : List Bs) (h : x ≠ []) : Lib.join (x :: r) sep ≠ [] := by
  rw [Lib.join_cons]
  intro e
  exact h (List.append_eq_nil_iff.1 e).1

/-- The text of a list of names: its parts. -/
theorem list_parts {P : ProgD} (hR : Right P) (n : Bs) (hn : isNm n = true) (l : List Int) (hl : l.all (varB P) = true) (b : Bs) :
    listN (n ++ namesT P l ++ b) = n ∧ listL (n ++ namesT P l ++ b) = l.map (nameOf P) ∧ listB (n ++ namesT P l ++ b) = b ∧ listOk (n ++ namesT P l ++ b) = true := by
  have hall : ∀ y ∈ l.map (nameOf P), isNm y = true := fun y hy => by
    obtain ⟨k, hk, rfl⟩ := List.mem_map.1 hy
    exact hR.name (List.all_eq_true.1 hl k hk)
  have e0 : n ++ namesT P l ++ b = n ++ [40] ++ (Lib.join (l.map (nameOf P)) sep ++ [41] ++ b) := by simp [namesT]
  have c1 : Lib.cut (n ++ namesT P l ++ b) [40] = (n, Lib.join (l.map (nameOf P)) sep ++ [41] ++ b, true) := by
    rw [e0]; exact cut_at 40 [] n _ (isNm_not hn 40 (by decide))
  have c2 : Lib.cut (Lib.join (l.map (nameOf P)) sep ++ [41] ++ b) [41] = (Lib.join (l.map (nameOf P)) sep, b, true) :=
    cut_at 41 [] _ b (join_no 41 _ (by decide) (by decide) (fun y hy => isNm_not (hall y hy) 41 (by decide)))
  have hL : listL (n ++ namesT P l ++ b) = l.map (nameOf P) := by
    unfold listL listI
    rw [c1, c2]
    cases hm : l.map (nameOf P) with
    | nil => rfl
    | cons x r =>
      have hx : x ≠ [] := (isNm_parts (hall x (by rw [hm]; exact List.mem_cons_self ..))).1
      have hne : (Lib.join (x :: r) sep).isEmpty = false := by
        rw [List.isEmpty_eq_false_iff]; exact join_ne x r hx
      show (if (Lib.join (x :: r) sep).isEmpty = true then [] else Lib.split (Lib.join (x :: r) sep) sep) = x :: r
      rw [hne]
      exact join_split x r (fun y hy => isNm_not (hall y (by rw [hm]; exact hy)) 44 (by decide))
  have hN : listN (n ++ namesT P l ++ b) = n := by unfold listN; rw [c1]
  refine ⟨hN, hL, ?_, ?_⟩
  · unfold listB; rw [c1, c2]
  · unfold listOk
    rw [hN, hL, c1, c2, hn, List.all_eq_true.2 hall]
    rfl

theorem map_idx {P : ProgD} (hR : Right P) (l : List Int) (hl : l.all (varB P) = true) : (l.map (nameOf P)).map (idx P.vars) = l := by
  rw [List.map_map]
  conv => rhs; rw [← List.map_id l]
  apply List.map_congr_left
  intro k hk
  exact hR.idx (List.all_eq_true.1 hl k hk)
theorem no_minus {P : ProgD} (l : List Int) (hl : l.all (varB P) = true) : l.contains (-1) = false := by
  cases e : l.contains (-1) with
  | false => rfl
  | true =>
    have := varB_parts (List.all_eq_true.1 hl (-1) (List.contains_iff_mem.1 e))
    omega
theorem ne_minus {P : ProgD} {k : Int} (h : varB P k = true) : (k == -1) = false := by
  have := varB_parts h
  rw [beq_eq_false_iff_ne]; omega

theorem read_var (V : List Bs) (v : Bs) (h : isNm v = true) : readLineD ⟨V, [], []⟩ (lineVar v) = (⟨V ++ [v], [], []⟩, none) := by
  unfold readLineD lineVar
  rw [pre_self, trim_self, if_pos rfl]
  unfold readVarD
  rw [h]; rfl
theorem read_fun {P : ProgD} (hR : Right P) (F : List FunD) (f : FunD) (hf : f ∈ P.funs) : readLineD ⟨P.vars, F, []⟩ (lineFun P f) = (⟨P.vars, F ++ [f], []⟩, none) := by
  have hn : isNm f.name = true := List.all_eq_true.1 hR.fn f.name (List.mem_map.2 ⟨f, hf, rfl⟩)
  obtain ⟨hp, hr⟩ := hR.fp f hf
  obtain ⟨q1, q2, q3, q4⟩ := list_parts hR f.name hn f.params hp ([32] ++ nameOf P f.ret)
  have e0 : lineFun P f = [102, 110, 32] ++ (f.name ++ namesT P f.params ++ ([32] ++ nameOf P f.ret)) := by simp [lineFun]
  have hv : Lib.hasPrefix (lineFun P f) [118, 97, 114, 32] = false := pre_false (fun r e => by
    rw [e0] at e
    exact absurd (List.cons.inj e).1 (by decide))
  unfold readLineD
  rw [hv, if_neg (by decide), e0, pre_self, trim_self, if_pos rfl]
  unfold readFunD
  have hidx : Go.Proofs.YtimmkenmahagjaaGreatDoor.idx P.vars (nameOf P f.ret) = f.ret := hR.idx hr
  have hmap := map_idx hR f.params hp
  rw [q1, q2, q3, q4, pre_self, trim_self, hR.name hr]
  have e1 : (!true || !true || !true || !(⟨P.vars, F, []⟩ : ProgD).stmts.isEmpty) = false := rfl
  rw [e1, if_neg (by decide)]
  show (if (((f.params.map (nameOf P)).map (idx P.vars)).contains (-1) || idx P.vars (nameOf P f.ret) == -1) = true then _ else _) = _
  rw [hmap, hidx, no_minus (P := P) _ hp, ne_minus hr, if_neg (by decide)]
theorem stmt_parts {P : ProgD} {s : StmtD} (h : stmtE P s = none) : kinds.contains s.kind = true ∧ varB P s.x = true ∧ yB P s = true ∧ s.args.all (varB P) = true ∧
    ((s.kind == kCall) = true → s.args.length ≤ 3) ∧ ((s.kind == kCall) = false → s.args = []) ∧ ((s.kind == kNew) = true → s.y = 0) := by
  unfold stmtE at h
  split at h
  · cases h
  rename_i h1
  split at h
  · cases h
  rename_i h2
  split at h
  · cases h
  rename_i h3
  split at h
  · cases h
  rename_i h4
  simp only [Bool.or_eq_true, Bool.not_eq_true', not_or, Bool.not_eq_false, Bool.and_eq_true, decide_eq_true_eq, not_and, List.isEmpty_iff, beq_iff_eq] at h1 h2 h3 h4
  refine ⟨h1, h2.1.1, h2.1.2, h2.2, fun g => ?_, fun g => ?_, fun g => ?_⟩
  · have := h3 (by simpa using g); omega
  · exact h4.1 g
  · exact h4.2 (by simpa using g)
end Go.Proofs.YtimmkenmahagjaaGreatDoor
