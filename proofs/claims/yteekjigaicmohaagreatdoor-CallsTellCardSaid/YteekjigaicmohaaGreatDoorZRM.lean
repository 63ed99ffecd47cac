/-
  Package run: what a machine is, as plain data and in memory; what a store does to it.
-/
import Derived.Test.YteekjigaicmohaaGreatDoorPMemM
import Derived.Deep.OwnRows
import Derived.Deep.RegionHeld3
namespace Go.Proofs.YteekjigaicmohaaGreatDoor
open Go.RowKit Go.Extern.Stop Go.Stop Go.Extern

/-- What a variable or a thing can have the address of. -/
abbrev Ref := Nat ⊕ Nat ⊕ Nat
abbrev Ref.var (i : Nat) : Ref := .inl i
abbrev Ref.thing (i : Nat) : Ref := .inr (.inl i)
abbrev Ref.fn (i : Nat) : Ref := .inr (.inr i)
theorem ref_cases {motive : Ref → Prop} (r : Ref) (var : ∀ i, motive (Ref.var i)) (thing : ∀ i, motive (Ref.thing i)) (fn : ∀ i, motive (Ref.fn i)) : motive r := by
  rcases r with i | i | i
  · exact var i
  · exact thing i
  · exact fn i
/-- A machine. -/
structure StD where
  vars : List (Option Ref)
  things : List (Option Ref)
  places : List Int
def StD.get (s : StD) : Ref → Option Ref
  | .inl i => s.vars.getD i none
  | .inr (.inl i) => s.things.getD i none
  | .inr (.inr _) => none
def StD.put (s : StD) (r : Ref) (x : Option Ref) : StD := match r with
  | .inl i => { s with vars := s.vars.set i x }
  | .inr (.inl i) => { s with things := s.things.set i x }
  | .inr (.inr _) => s
def Ref.isFn : Ref → Bool
  | .inr (.inr _) => true
  | _ => false
/-- The numbers of a machine's references are there. -/
def Ref.ok (n1 n2 nt : Nat) : Ref → Prop
  | .inl i => i < n1
  | .inr (.inl i) => i < nt
  | .inr (.inr i) => i < n2
def OkO (n1 n2 nt : Nat) (r : Option Ref) : Prop := ∀ x, r = some x → x.ok n1 n2 nt

/-- Where the cells of a machine lie. -/
structure Lay where
  vb : List Nat
  fb : List Nat
  tb : List Nat
def Lay.at (l : Lay) : Ref → Nat
  | .inl i => l.vb.getD i 0
  | .inr (.inl i) => l.tb.getD i 0
  | .inr (.inr i) => l.fb.getD i 0
def refKind : Ref → ByteArray
  | .inl _ => ⟨#[118, 97, 114]⟩
  | .inr (.inl _) => ⟨#[116, 104, 105, 110, 103]⟩
  | .inr (.inr _) => ⟨#[102, 117, 110]⟩
def refNo : Ref → Nat
  | .inl i => i
  | .inr (.inl i) => i
  | .inr (.inr i) => i
theorem ref_eq {r r' : Ref} (h1 : refKind r = refKind r') (h2 : refNo r = refNo r') : r = r' := by
  rcases r with i | i | i <;> rcases r' with j | j | j <;> simp_all [refKind, refNo]
def ptrV (b : Nat) : Value := .pointer (some ⟨b, 0, none⟩)
def hasV (l : Lay) (r : Option Ref) : Value := .pointer (r.map fun x => ⟨l.at x, 0, none⟩)
/-- One cell of a machine. -/
def CellAt (w : World) (B : Nat) (l : Lay) (s : StD) (r : Ref) : Prop :=
  B ≤ l.at r ∧ w.heap[l.at r]? = some (.cells #[.string (refKind r), .int .i64 (refNo r : Int), hasV l (s.get r)] 178 (0, 0))
structure Mach (w : World) (B Bt mb : Nat) (n1 n2 : Nat) (s : StD) (l : Lay) (v1 v2 v3 xv xf xt xp : Value) : Prop where
  low : B ≤ mb
  hBt : B ≤ Bt
  hBw : Bt ≤ w.heap.size
  blk : w.heap[mb]? = some (.cells #[v1, v2, v3, xv, xf, xt, xp] 175 (0, 0))
  rv : w.ownsRow B 176 1 xv n1 (l.vb.map ptrV)
  rf : w.ownsRow B 176 1 xf n2 (l.fb.map ptrV)
  rvb : ∀ g, xv.ownBlock = some g → g < Bt
  rfb : ∀ g, xf.ownBlock = some g → g < Bt
  rt : w.ownsRow Bt 176 1 xt s.things.length (l.tb.map ptrV)
  rp : w.ownsRow Bt 3 1 xp s.places.length (s.places.map intV)
  lv : l.vb.length = n1
  lf : l.fb.length = n2
  lt : l.tb.length = s.things.length
  lp : s.places.length = s.things.length
  ls : s.vars.length = n1
  cells : ∀ r, r.ok n1 n2 s.things.length → CellAt w B l s r
  okv : ∀ r ∈ s.vars, OkO n1 n2 s.things.length r
  okt : ∀ r ∈ s.things, OkO n1 n2 s.things.length r

theorem Mach.below {w w' : World} {B Bt mb n1 n2 : Nat} {s : StD} {l : Lay} {v1 v2 v3 xv xf xt xp : Value} (h : Mach w B Bt mb n1 n2 s l v1 v2 v3 xv xf xt xp) (hb : Below w.heap.size w w') : Mach w' B Bt mb n1 n2 s l v1 v2 v3 xv xf xt xp :=
  ⟨h.low, h.hBt, Nat.le_trans h.hBw hb.size, block_keep hb h.blk, owns_below h.rv hb, owns_below h.rf hb, h.rvb, h.rfb, owns_below h.rt hb, owns_below h.rp hb, h.lv, h.lf, h.lt, h.lp, h.ls, fun r hr => ⟨(h.cells r hr).1, block_keep hb (h.cells r hr).2⟩, h.okv, h.okt⟩
theorem Mach.size {w : World} {B Bt mb n1 n2 : Nat} {s : StD} {l : Lay} {v1 v2 v3 xv xf xt xp : Value} (h : Mach w B Bt mb n1 n2 s l v1 v2 v3 xv xf xt xp) : B ≤ w.heap.size := Nat.le_trans h.low (Nat.le_of_lt (Array.getElem?_eq_some_iff.1 h.blk).1)
theorem getD_ok {n1 n2 nt : Nat} {l : List (Option Ref)} (h : ∀ r ∈ l, OkO n1 n2 nt r) (i : Nat) : OkO n1 n2 nt (l.getD i none) := by
  by_cases hi : i < l.length
  · have : l.getD i none = l[i] := by simp [List.getD, hi]
    rw [this]; exact h _ (List.getElem_mem hi)
  · intro x hx
    simp [List.getD, List.getElem?_eq_none (Nat.le_of_not_lt hi)] at hx
theorem Mach.get_ok {w : World} {B Bt mb n1 n2 : Nat} {s : StD} {l : Lay} {v1 v2 v3 xv xf xt xp : Value} (h : Mach w B Bt mb n1 n2 s l v1 v2 v3 xv xf xt xp) (r : Ref) : OkO n1 n2 s.things.length (s.get r) := by
  cases r using ref_cases with
  | var i => exact getD_ok h.okv i
  | thing i => exact getD_ok h.okt i
  | fn i => intro x hx; cases hx
/-- Two references lie in one block only if they are one. -/
theorem Mach.at_inj {w : World} {B Bt mb n1 n2 : Nat} {s : StD} {l : Lay} {v1 v2 v3 xv xf xt xp : Value} (h : Mach w B Bt mb n1 n2 s l v1 v2 v3 xv xf xt xp) {r r' : Ref} (hr : r.ok n1 n2 s.things.length) (hr' : r'.ok n1 n2 s.things.length) (he : l.at r = l.at r') : r = r' := by
  have h1 := (h.cells r hr).2
  have h2 := (h.cells r' hr').2
  rw [he, h2] at h1
  simp only [Option.some.injEq, Obj.cells.injEq, Array.mk.injEq, List.cons.injEq, Value.string.injEq, Value.int.injEq] at h1
  exact (ref_eq h1.1.1 (by omega)).symm
theorem put_things {s : StD} {r : Ref} {x : Option Ref} : (s.put r x).things.length = s.things.length := by
  rcases r with i | i | i <;> simp [StD.put]
theorem put_places {s : StD} {r : Ref} {x : Option Ref} : (s.put r x).places = s.places := by
  rcases r with i | i | i <;> rfl
theorem put_vars {s : StD} {r : Ref} {x : Option Ref} : (s.put r x).vars.length = s.vars.length := by
  rcases r with i | i | i <;> simp [StD.put]
theorem getD_set_same {α : Type} (l : List α) (i : Nat) (x d : α) (h : i < l.length) : (l.set i x).getD i d = x := by simp [List.getD, h]
theorem getD_set_other {α : Type} (l : List α) (i j : Nat) (x d : α) (h : i ≠ j) : (l.set i x).getD j d = l.getD j d := by simp [List.getD, h]
theorem get_put_same {s : StD} {n1 n2 : Nat} {r : Ref} {x : Option Ref} (hs : s.vars.length = n1) (hr : r.ok n1 n2 s.things.length) (hf : r.isFn = false) : (s.put r x).get r = x := by
  cases r using ref_cases with
  | var i => exact getD_set_same _ _ _ _ (by rw [hs]; exact hr)
  | thing i => exact getD_set_same _ _ _ _ hr
  | fn i => cases hf
theorem get_put_other {s : StD} {r r' : Ref} {x : Option Ref} (h : r ≠ r') : (s.put r x).get r' = s.get r' := by
  cases r using ref_cases with
  | var i =>
    cases r' using ref_cases with
    | var j => exact getD_set_other _ _ _ _ _ (fun q => h (by rw [q]))
    | thing j => rfl
    | fn j => rfl
  | thing i =>
    cases r' using ref_cases with
    | var j => rfl
    | thing j => exact getD_set_other _ _ _ _ _ (fun q => h (by rw [q]))
    | fn j => rfl
  | fn i => rfl
theorem mem_set_ok {n1 n2 nt : Nat} {l : List (Option Ref)} (h : ∀ r ∈ l, OkO n1 n2 nt r) (i : Nat) {x : Option Ref} (hx : OkO n1 n2 nt x) : ∀ r ∈ l.set i x, OkO n1 n2 nt r := fun r hr => by
  rcases List.mem_or_eq_of_mem_set hr with q | q
  · exact h r q
  · rw [q]; exact hx
/-- A reference gets what another one has. -/
theorem Mach.put {w : World} {B Bt mb n1 n2 : Nat} {s : StD} {l : Lay} {v1 v2 v3 xv xf xt xp : Value} (h : Mach w B Bt mb n1 n2 s l v1 v2 v3 xv xf xt xp) {r : Ref} (hr : r.ok n1 n2 s.things.length) (hf : r.isFn = false) {x : Option Ref} (hx : OkO n1 n2 s.things.length x) :
    Mach (w.setCell ⟨l.at r, 2, none⟩ (hasV l x)) B Bt mb n1 n2 (s.put r x) l v1 v2 v3 xv xf xt xp := by
  have hb := (h.cells r hr).2
  have hk := kept_setCell (i := 2) hb (hasV l x)
  refine ⟨h.low, h.hBt, by simpa using h.hBw, hk _ _ _ _ h.blk (by decide), owns_kept h.rv hk (by decide), owns_kept h.rf hk (by decide), h.rvb, h.rfb, ?_, ?_, h.lv, h.lf, ?_, ?_, ?_, ?_, ?_, ?_⟩
  · rw [put_things]; exact owns_kept h.rt hk (by decide)
  · rw [put_places]; exact owns_kept h.rp hk (by decide)
  · rw [put_things]; exact h.lt
  · rw [put_things, put_places]; exact h.lp
  · rw [put_vars]; exact h.ls
  · intro r' hr'
    rw [put_things] at hr'
    refine ⟨(h.cells r' hr').1, ?_⟩
    by_cases he : r = r'
    · subst he
      rw [get_put_same h.ls hr hf, set_block _ _ _ _ _ _ hb]
      rfl
    · have hne : l.at r ≠ l.at r' := fun q => he (h.at_inj hr hr' q)
      rw [get_put_other he]
      have : (w.setCell ⟨l.at r, 2, none⟩ (hasV l x)).heap[l.at r']? = w.heap[l.at r']? := by
        simp only [World.setCell, Array.getElem?_modify]
        rw [if_neg hne]
      rw [this]; exact (h.cells r' hr').2
  · rw [put_things]
    cases r using ref_cases with
    | var i => exact mem_set_ok h.okv i hx
    | thing i => exact h.okv
    | fn i => cases hf
  · rw [put_things]
    cases r using ref_cases with
    | var i => exact h.okt
    | thing i => exact mem_set_ok h.okt i hx
    | fn i => cases hf
end Go.Proofs.YteekjigaicmohaaGreatDoor

/-
  Package run: (*cell).holds, (*cell).value, checkScript, by contracts.
-/
namespace Go.Proofs.YteekjigaicmohaaGreatDoor
open Go.RowKit Go.Extern.Stop Go.Stop Go.Extern

def holdsO : Option Ref → Bool
  | none => false
  | some r => !r.isFn
theorem cell_kind {w : World} {B : Nat} {l : Lay} {s : StD} {r : Ref} (h : CellAt w B l s r) : w.cell? ⟨l.at r, 0, none⟩ = some (.string (refKind r)) ∧ w.cell? ⟨l.at r, 1, none⟩ = some (.int .i64 (refNo r : Int)) ∧ w.cell? ⟨l.at r, 2, none⟩ = some (hasV l (s.get r)) ∧ w.frozen? ⟨l.at r, 2, none⟩ = false := by
  refine ⟨?_, ?_, ?_, frozen_of_block h.2 2⟩
  · rw [Lib.cell_of_heap h.2]; rfl
  · rw [Lib.cell_of_heap h.2]; rfl
  · rw [Lib.cell_of_heap h.2]; rfl
theorem kind_fn (r : Ref) : ((refKind r).toList == [102, 117, 110]) = r.isFn := by
  cases r using ref_cases with
  | var i => simp only [refKind, Ref.isFn, ByteArray.toList_eq]; decide
  | thing i => simp only [refKind, Ref.isFn, ByteArray.toList_eq]; decide
  | fn i => simp only [refKind, Ref.isFn, ByteArray.toList_eq]; decide

theorem runHolds_any (l : Lay) (x : Option Ref) (w : World) (h : ∀ r, x = some r → w.cell? ⟨l.at r, 0, none⟩ = some (.string (refKind r))) :
    Calls Tryz.prog 127 #[hasV l x] w fun e w' => e = .returned (.bool (holdsO x)) ∧ w' = w := by
  cases x with
  | none =>
    unfold hasV holdsO
    go_enter Tryz.func127, Tryz.ntmps127
    go_wp2_with fail
    go_ret
    exact ⟨rfl, rfl⟩
  | some r =>
    have h0 := h r rfl
    have hk := kind_fn r
    unfold hasV holdsO
    simp only [Option.map_some]
    obtain ⟨bk, hbk⟩ : ∃ b, b = refKind r := ⟨_, rfl⟩
    obtain ⟨F, hF⟩ : ∃ F, F = r.isFn := ⟨_, rfl⟩
    obtain ⟨b, hb⟩ : ∃ b, b = l.at r := ⟨_, rfl⟩
    rw [← hbk] at h0 hk
    rw [← hF] at hk ⊢
    rw [← hb] at h0 ⊢
    clear h hbk hF hb
    go_enter Tryz.func127, Tryz.ntmps127
    go_wp2_with fail
    go_ret
    exact ⟨rfl, rfl⟩

def valK : Option Ref → ByteArray
  | none => ⟨#[110, 111, 110, 101]⟩
  | some r => refKind r
def valN : Option Ref → Int
  | none => 0
  | some r => (refNo r : Int)
theorem value_any (l : Lay) (b : Nat) (x : Option Ref) (w : World) (hc : w.cell? ⟨b, 2, none⟩ = some (hasV l x)) (h : ∀ r, x = some r → w.cell? ⟨l.at r, 0, none⟩ = some (.string (refKind r)) ∧ w.cell? ⟨l.at r, 1, none⟩ = some (.int .i64 (refNo r : Int))) :
    Calls Tryz.prog 160 #[ptrV b] w fun e w' => e = .returned (.agg #[.string (valK x), .int .i64 (valN x)]) ∧ Below w.heap.size w w' := by
  have hbz : b < w.heap.size := lt_of_cell hc
  have hc' := fun o => cell_keep (below1 w o) hc
  cases x with
  | none =>
    unfold hasV at hc hc'
    simp only [Option.map_none] at hc hc'
    unfold valK valN ptrV
    go_enter Tryz.func160, Tryz.ntmps160
    go_wp2_with fail
    refine bodyPost_ret (v := .agg #[.string ⟨#[110, 111, 110, 101]⟩, .int .i64 0]) (by simp [results, Tryz.results160, go_sem]) rfl ?_
    exact ⟨rfl, below1 _ _⟩
  | some r =>
    obtain ⟨h0, h1⟩ := h r rfl
    unfold hasV at hc hc'
    simp only [Option.map_some] at hc hc'
    unfold valK valN ptrV
    simp only
    obtain ⟨bk, hbk⟩ : ∃ b, b = refKind r := ⟨_, rfl⟩
    obtain ⟨n, hn⟩ : ∃ n, n = (refNo r : Int) := ⟨_, rfl⟩
    obtain ⟨c, hcc⟩ : ∃ b, b = l.at r := ⟨_, rfl⟩
    rw [← hbk] at h0 ⊢
    rw [← hn] at h1 ⊢
    rw [← hcc] at h0 h1 hc hc'
    have h0' := fun o => cell_keep (below1 w o) h0
    have h1' := fun o => cell_keep (below1 w o) h1
    clear h hbk hn hcc
    go_enter Tryz.func160, Tryz.ntmps160
    go_wp2_with fail
    refine bodyPost_ret (v := .agg #[.string bk, .int .i64 n]) (by simp [results, Tryz.results160, go_sem]) rfl ?_
    exact ⟨rfl, below1 _ _⟩

/-- The first number of a script that is no statement's. -/
def scriptE (n : Nat) (k : Nat) : List Int → ErrD
  | [] => none
  | z :: r => if 0 ≤ z ∧ z < (n : Int) then scriptE n (k + 1) r else some (1, (k : Int))
def doneE (n : Nat) (zs : List Int) : ErrD := if 2000 < zs.length then some (7, -1) else scriptE n 0 zs
theorem scriptE_at (n : Nat) (zs : List Int) (b k : Nat) (hk : k < zs.length) (h : ∀ j, j < k → 0 ≤ zs.getD j 0 ∧ zs.getD j 0 < (n : Int)) (hn : ¬ (0 ≤ zs.getD k 0 ∧ zs.getD k 0 < (n : Int))) : scriptE n b zs = some (1, ((b + k : Nat) : Int)) := by
  induction zs generalizing b k with
  | nil => simp at hk
  | cons z r ih =>
    unfold scriptE
    cases k with
    | zero => rw [if_neg (by simpa [List.getD] using hn)]; rfl
    | succ k =>
      rw [if_pos (by simpa [List.getD] using h 0 (by omega))]
      have := ih (b + 1) k (by simpa using hk) (fun j hj => by simpa [List.getD] using h (j + 1) (by omega)) (by simpa [List.getD] using hn)
      rw [this, show b + 1 + k = b + (k + 1) by omega]
theorem scriptE_all (n : Nat) (zs : List Int) (b : Nat) (h : ∀ j, j < zs.length → 0 ≤ zs.getD j 0 ∧ zs.getD j 0 < (n : Int)) : scriptE n b zs = none := by
  induction zs generalizing b with
  | nil => rfl
  | cons z r ih =>
    unfold scriptE
    rw [if_pos (by simpa [List.getD] using h 0 (by simp))]
    exact ih (b + 1) (fun j hj => by simpa [List.getD] using h (j + 1) (by simpa using hj))

set_option maxHeartbeats 2000000 in
theorem checkScript_any (a : Nat → Addr) (n : Nat) (zs : List Int) (v : Value) (w : World) (hE : Errs5 w a) (hm : zs.length ≤ 1000000) (h : IsInts w v zs) :
    Calls Tryz.prog 78 #[v, .int .i64 (n : Int)] w fun e w' => ∃ v', e = .returned v' ∧ ErrV w' a (doneE n zs) v' ∧ Below w.heap.size w w' := by
  obtain ⟨a0, c, rfl⟩ := isInts_form h
  have HC : Hid (∀ j, j < zs.length → ∃ b o, a0 = some ⟨b, o, none⟩ ∧ w.cell? ⟨b, o + j, none⟩ = some (.int .i64 (zs.getD j 0))) := fun j hj => isInts_at h j hj
  have e7 := hE.c7
  have HE : Hid (Errs5 w a) := hE
  obtain ⟨R, hR⟩ : ∃ R, R = doneE n zs := ⟨_, rfl⟩
  rw [← hR]
  have HR : Hid (R = doneE n zs) := hR
  obtain ⟨m, hmm⟩ : ∃ m, m = zs.length := ⟨_, rfl⟩
  have HM : Hid (m = zs.length) := hmm
  rw [← hmm] at hm ⊢
  clear h hE hR hmm
  by_cases g : 2000 < (m : Int)
  · have hb : Hid (R = some (7, -1)) := by show R = _; rw [HR.out]; unfold doneE; rw [if_pos (by rw [← HM.out]; omega)]
    go_enter Tryz.func78, Tryz.ntmps78
    go_wp2_with fail
    go_ret
    exact ⟨_, rfl, by rw [hb.out]; exact Or.inr (Or.inl ⟨7, rfl, rfl⟩), Below.refl _ _⟩
  have HS : Hid (R = scriptE n 0 zs) := by show R = _; rw [HR.out]; unfold doneE; rw [if_neg (by rw [← HM.out]; omega)]
  clear e7 HR
  go_enter Tryz.func78, Tryz.ntmps78
  go_wp2_with fail
  go_loopw [13] (fun t wr => ∃ k : Nat, k ≤ m ∧ t = .int .i64 k ∧ wr = w ∧ ∀ j, j < k → 0 ≤ zs.getD j 0 ∧ zs.getD j 0 < (n : Int)) (fun t _ => (m - intOf t).toNat)
  case atStart => exact ⟨0, Nat.zero_le _, rfl, rfl, fun j hj => absurd hj (Nat.not_lt_zero _)⟩
  case round =>
    obtain ⟨k, hk, rfl, hwr, hall⟩ := hrel
    obtain rfl := hwr.symm
    have HA : Hid (∀ j, j < k → 0 ≤ zs.getD j 0 ∧ zs.getD j 0 < (n : Int)) := hall
    clear hwr hall
    by_cases hlt : k < m
    · have hl : k < zs.length := by rw [← HM.out]; exact hlt
      obtain ⟨b, o, rfl, e0⟩ := HC.out k hl
      obtain ⟨z, hz⟩ : ∃ z, z = zs.getD k 0 := ⟨_, rfl⟩
      rw [← hz] at e0
      have HN : Hid (0 ≤ z ∧ z < (n : Int) → ∀ j, j < k + 1 → 0 ≤ zs.getD j 0 ∧ zs.getD j 0 < (n : Int)) := fun g j hj => by
        rcases Nat.lt_succ_iff_lt_or_eq.1 hj with q | q
        · exact HA.out j q
        · rw [q, ← hz]; exact g
      have HF : Hid (¬ (0 ≤ z ∧ z < (n : Int)) → R = some (1, (k : Int))) := fun g => by
        rw [HS.out, scriptE_at n zs 0 k hl HA.out (by rw [← hz]; exact g), Nat.zero_add]
      have e1 := HE.out.c1
      have e1' := fun o => cell_keep (below1 w o) e1
      clear hl hz HA
      by_cases g1 : z < 0
      · have hb : Hid (R = some (1, (k : Int))) := HF.out (fun q => by omega)
        clear HN HF
        go_wp2_with fail
        go_ret
        refine ⟨_, rfl, by rw [hb.out]; exact Or.inr (Or.inr ⟨1, k, w.heap.size, 0, rfl, by omega, rfl, by simp, by simp⟩), ?_⟩
        exact below1 _ _
      · by_cases g2 : (n : Int) ≤ z
        · have hb : Hid (R = some (1, (k : Int))) := HF.out (fun q => by omega)
          clear HN HF
          go_wp2_with fail
          go_ret
          refine ⟨_, rfl, by rw [hb.out]; exact Or.inr (Or.inr ⟨1, k, w.heap.size, 0, rfl, by omega, rfl, by simp, by simp⟩), ?_⟩
          exact below1 _ _
        · have HN2 : Hid (∀ j, j < k + 1 → 0 ≤ zs.getD j 0 ∧ zs.getD j 0 < (n : Int)) := HN.out ⟨by omega, by omega⟩
          clear HN HF
          go_wp2_with fail
          go_roundw
          case rel => exact ⟨k + 1, hlt, by go_num, trivial, HN2.out⟩
          case measure => simp [intOf]; omega
    · have hb : Hid (R = none) := by
        show R = none
        rw [HS.out]
        exact scriptE_all n zs 0 (fun j hj => HA.out j (by rw [← HM.out] at hj; omega))
      go_wp2_with fail
      go_ret
      exact ⟨_, rfl, by rw [hb.out]; exact Or.inl ⟨rfl, rfl⟩, Below.refl _ _⟩
end Go.Proofs.YteekjigaicmohaaGreatDoor

/-
  Package run: (*machine).newThing, by a contract.
-/
namespace Go.Proofs.YteekjigaicmohaaGreatDoor
open Go.RowKit Go.Extern.Stop Go.Stop Go.Extern

theorem Tryz.infoCellP : (Tryz.prog.info? 176).map (fun i => (i.zero, i.size, i.bytes)) = some (some (.pointer none), 1, 8) := by kernel_rfl
theorem owns_low {w w' : World} {B Bt : Nat} {e : TypeId} {k : Nat} {v : Value} {n : Nat} {xs : List Value} (h : w.ownsRow B e k v n xs) (hg : ∀ g, v.ownBlock = some g → g < Bt) (hb : Below Bt w w') : w'.ownsRow B e k v n xs := by
  refine ⟨h.1, ?_⟩
  rcases h.2 with h2 | ⟨g, cap, cur, hv, hg', hh, r⟩
  · exact Or.inl h2
  · exact Or.inr ⟨g, cap, cur, hv, hg', by rw [hb.block g (hg g (by rw [hv]; rfl))]; exact hh, r⟩
def addT (s : StD) (k : Int) : StD := { s with things := s.things ++ [none], places := s.places ++ [k] }
def layT (l : Lay) (b : Nat) : Lay := { l with tb := l.tb ++ [b] }
theorem at_layT {l : Lay} {b n1 n2 nt : Nat} {r : Ref} (hl : l.tb.length = nt) (hr : r.ok n1 n2 nt) : (layT l b).at r = l.at r := by
  cases r using ref_cases with
  | var i => rfl
  | fn i => rfl
  | thing i =>
    have hi : i < nt := hr
    exact getD_snoc_left l.tb b 0 i (by omega)
theorem has_layT {l : Lay} {b n1 n2 nt : Nat} {x : Option Ref} (hl : l.tb.length = nt) (hx : OkO n1 n2 nt x) : hasV (layT l b) x = hasV l x := by
  cases x with
  | none => rfl
  | some r =>
    unfold hasV
    simp only [Option.map_some]
    rw [at_layT hl (hx r rfl)]
theorem ok_more {n1 n2 nt : Nat} {x : Option Ref} (hx : OkO n1 n2 nt x) : OkO n1 n2 (nt + 1) x := fun r hr => by
  have := hx r hr
  cases r using ref_cases with
  | var i => exact this
  | fn i => exact this
  | thing i => exact Nat.lt_succ_of_lt this
theorem get_addT {s : StD} {k : Int} {n1 n2 : Nat} {r : Ref} (hr : r.ok n1 n2 s.things.length) : (addT s k).get r = s.get r := by
  cases r using ref_cases with
  | var i => rfl
  | fn i => rfl
  | thing i => exact getD_snoc_left s.things none none i hr
/-- A thing more. -/
theorem Mach.addThing {w : World} {B Bt mb n1 n2 : Nat} {s : StD} {l : Lay} {v1 v2 v3 xv xf xt xp : Value} (h : Mach w B Bt mb n1 n2 s l v1 v2 v3 xv xf xt xp) (k : Int) (hl : s.things.length ≤ 1000000) (c : Obj) (hc : c = .cells #[.string ⟨#[116, 104, 105, 110, 103]⟩, .int .i64 (s.things.length : Int), .pointer none] 178) :
    ∃ v' w2, (Builtin.append_ #[172, 172] 172 #[xt, .slice (some ⟨w.heap.size + 1, 0, none⟩) 1 1]).run Tryz.prog ((w.alloc c).alloc (.cells #[ptrV w.heap.size] 176)) = .ok v' w2 ∧ w2.cell? ⟨mb, 5, none⟩ = some xt ∧ w2.frozen? ⟨mb, 5, none⟩ = false ∧ (∃ a n c, v' = .slice a n c) ∧
      ∃ v2' w3, (Builtin.append_ #[40, 40] 40 #[xp, .slice (some ⟨(w2.setCell ⟨mb, 5, none⟩ v').heap.size, 0, none⟩) 1 1]).run Tryz.prog ((w2.setCell ⟨mb, 5, none⟩ v').alloc (.cells #[.int .i64 k] 3)) = .ok v2' w3 ∧ (w2.setCell ⟨mb, 5, none⟩ v').cell? ⟨mb, 6, none⟩ = some xp ∧ w3.cell? ⟨mb, 6, none⟩ = some xp ∧ w3.frozen? ⟨mb, 6, none⟩ = false ∧ (∃ a n c, v2' = .slice a n c) ∧
        Mach (w3.setCell ⟨mb, 6, none⟩ v2') B Bt mb n1 n2 (addT s k) (layT l w.heap.size) v1 v2 v3 xv xf v' v2' ∧ Below B w (w3.setCell ⟨mb, 6, none⟩ v2') := by
  subst hc
  obtain ⟨w1, hw1⟩ : ∃ w1, w1 = w.alloc (.cells #[.string ⟨#[116, 104, 105, 110, 103]⟩, .int .i64 (s.things.length : Int), .pointer none] 178) := ⟨_, rfl⟩
  have hsz1 : w1.heap.size = w.heap.size + 1 := by rw [hw1]; simp
  have hb1 : Below w.heap.size w w1 := by rw [hw1]; exact below1 w _
  have m1 := h.below hb1
  have hnew : w1.heap[w.heap.size]? = some (.cells #[.string ⟨#[116, 104, 105, 110, 103]⟩, .int .i64 (s.things.length : Int), .pointer none] 178 (0, 0)) := by rw [hw1]; exact heap_new w _
  obtain ⟨v', w2, hr, ho, hb2, hk2⟩ := append_one w1 Bt xt s.things.length 1 8 172 176 (.pointer none) (l.tb.map ptrV) [ptrV w.heap.size] m1.rt m1.hBw Tryz.underlying172 Tryz.infoCellP (by decide) rfl rfl (fun x hx => by rw [List.mem_singleton.1 hx]; rfl) hl 172 (by decide)
  have hm2 : w2.heap[mb]? = some (.cells #[v1, v2, v3, xv, xf, xt, xp] 175 (0, 0)) := hk2 _ _ _ _ m1.blk (by decide)
  rw [hsz1, hw1] at hr
  have hset := kept_setCell (i := 5) hm2 v'
  obtain ⟨wm, hwm⟩ : ∃ wm, wm = w2.setCell ⟨mb, 5, none⟩ v' := ⟨_, rfl⟩
  rw [← hwm] at hset
  have hmm : wm.heap[mb]? = some (.cells #[v1, v2, v3, xv, xf, v', xp] 175 (0, 0)) := by rw [hwm, set_block _ _ _ _ _ _ hm2]; rfl
  have hszm : wm.heap.size = w2.heap.size := by rw [hwm]; simp
  have hb2' : Below B w1 wm := by rw [hwm]; exact (hb2.mono h.hBt).setCell h.low _
  have hpm : wm.ownsRow Bt 3 1 xp s.places.length (s.places.map intV) := owns_kept (owns_kept m1.rp hk2 (by decide)) hset (by decide)
  have htm : wm.ownsRow Bt 176 1 v' (s.things.length + 1) (l.tb.map ptrV ++ [ptrV w.heap.size]) := owns_kept ho hset (by decide)
  have hvm : wm.ownsRow B 176 1 xv n1 (l.vb.map ptrV) := owns_kept (owns_low m1.rv h.rvb hb2) hset (by decide)
  have hfm : wm.ownsRow B 176 1 xf n2 (l.fb.map ptrV) := owns_kept (owns_low m1.rf h.rfb hb2) hset (by decide)
  have hBm : Bt ≤ wm.heap.size := by rw [hszm]; exact Nat.le_trans m1.hBw hb2.size
  obtain ⟨v2', w3, hr3, ho3, hb3, hk3⟩ := append_one wm Bt xp s.places.length 1 8 40 3 (.int .i64 0) (s.places.map intV) [intV k] hpm hBm Tryz.underlying40 Tryz.infoInt (by decide) rfl rfl (fun x hx => by rw [List.mem_singleton.1 hx]; rfl) (by rw [h.lp]; exact hl) 40 (by decide)
  have hm3 : w3.heap[mb]? = some (.cells #[v1, v2, v3, xv, xf, v', xp] 175 (0, 0)) := hk3 _ _ _ _ hmm (by decide)
  have hset3 := kept_setCell (i := 6) hm3 v2'
  refine ⟨v', w2, hr, by rw [Lib.cell_of_heap hm2]; rfl, Lib.frozen_of_heap hm2 5, by obtain ⟨_, _, e⟩ := owns_form ho; exact ⟨_, _, _, e⟩, v2', w3, by rw [← hwm]; exact hr3, by rw [← hwm, Lib.cell_of_heap hmm]; rfl, by rw [Lib.cell_of_heap hm3]; rfl, Lib.frozen_of_heap hm3 6, by obtain ⟨_, _, e⟩ := owns_form ho3; exact ⟨_, _, _, e⟩, ?_, ?_⟩
  · have keepC : ∀ (b : Nat) cs, w1.heap[b]? = some (.cells cs 178 (0, 0)) → (w3.setCell ⟨mb, 6, none⟩ v2').heap[b]? = some (.cells cs 178 (0, 0)) := fun b cs hb =>
      hset3 _ _ _ _ (hk3 _ _ _ _ (hset _ _ _ _ (hk2 _ _ _ _ hb (by decide)) (by decide)) (by decide)) (by decide)
    have hlen : (addT s k).things.length = s.things.length + 1 := by simp [addT]
    refine ⟨h.low, h.hBt, ?_, by rw [set_block _ _ _ _ _ _ hm3]; rfl, ?_, ?_, h.rvb, h.rfb, ?_, ?_, h.lv, h.lf, ?_, ?_, h.ls, ?_, ?_, ?_⟩
    · simpa using Nat.le_trans hBm hb3.size
    · exact owns_kept (owns_low hvm h.rvb hb3) hset3 (by decide)
    · exact owns_kept (owns_low hfm h.rfb hb3) hset3 (by decide)
    · rw [hlen]
      have := owns_kept (owns_kept htm hk3 (by decide)) hset3 (by decide)
      simpa [layT] using this
    · have := owns_kept ho3 hset3 (by decide)
      simpa [addT] using this
    · rw [hlen]; simp [layT, h.lt]
    · simp [addT, h.lp]
    · intro r hr'
      rw [hlen] at hr'
      by_cases ho' : r.ok n1 n2 s.things.length
      · obtain ⟨q1, q2⟩ := h.cells r ho'
        unfold CellAt
        rw [at_layT h.lt ho', get_addT ho', has_layT h.lt (h.get_ok r)]
        exact ⟨q1, keepC _ _ (block_keep hb1 q2)⟩
      · cases r using ref_cases with
        | var i => exact absurd hr' ho'
        | fn i => exact absurd hr' ho'
        | thing i =>
          have hi : i = s.things.length := by
            have h1 : i < s.things.length + 1 := hr'
            have h2 : ¬ i < s.things.length := ho'
            omega
          subst hi
          have ha : (layT l w.heap.size).at (.thing s.things.length) = w.heap.size := getD_snoc_last l.tb w.heap.size 0 _ h.lt.symm
          have hg : (addT s k).get (.thing s.things.length) = none := getD_snoc_last s.things none none _ rfl
          unfold CellAt
          rw [ha, hg]
          exact ⟨h.size, keepC _ _ hnew⟩
    · rw [hlen]
      exact fun r hr => ok_more (h.okv r hr)
    · rw [hlen]
      intro r hr
      rcases List.mem_append.1 hr with q | q
      · exact ok_more (h.okt r q)
      · rw [List.mem_singleton.1 q]
        intro x hx; cases hx
  · exact ((hb1.mono h.size).trans hb2').trans ((hb3.mono h.hBt).setCell h.low _)
end Go.Proofs.YteekjigaicmohaaGreatDoor

/-
  Package run: (*machine).newThing, newCells, by contracts.
-/
namespace Go.Proofs.YteekjigaicmohaaGreatDoor
open Go.RowKit Go.Extern.Stop Go.Stop Go.Extern

theorem Mach.cellsM {w : World} {B Bt mb n1 n2 : Nat} {s : StD} {l : Lay} {v1 v2 v3 xv xf xt xp : Value} (h : Mach w B Bt mb n1 n2 s l v1 v2 v3 xv xf xt xp) : w.cell? ⟨mb, 0, none⟩ = some v1 ∧ w.cell? ⟨mb, 1, none⟩ = some v2 ∧ w.cell? ⟨mb, 2, none⟩ = some v3 ∧ w.cell? ⟨mb, 3, none⟩ = some xv ∧ w.cell? ⟨mb, 4, none⟩ = some xf ∧ w.cell? ⟨mb, 5, none⟩ = some xt ∧ w.cell? ⟨mb, 6, none⟩ = some xp := by
  refine ⟨?_, ?_, ?_, ?_, ?_, ?_, ?_⟩ <;> (rw [Lib.cell_of_heap h.blk]; rfl)

set_option maxRecDepth 100000 in
set_option maxHeartbeats 4000000 in
theorem newThing_any {w : World} {B Bt mb n1 n2 : Nat} {s : StD} {l : Lay} {v1 v2 v3 xv xf xt xp : Value} (h : Mach w B Bt mb n1 n2 s l v1 v2 v3 xv xf xt xp) (k : Int) (hl : s.things.length ≤ 1000000) :
    Calls Tryz.prog 128 #[.pointer (some ⟨mb, 0, none⟩), .int .i64 k] w fun e w' => e = .returned (ptrV w.heap.size) ∧ ∃ xt' xp', Mach w' B Bt mb n1 n2 (addT s k) (layT l w.heap.size) v1 v2 v3 xv xf xt' xp' ∧ Below B w w' := by
  obtain ⟨v', w2, hr, d0, d1, ⟨ya, yn, yc, rfl⟩, v2', w3, hr3, k0, e0, e1, ⟨za, zn, zc, rfl⟩, hM, hB⟩ := h.addThing k hl _ rfl
  obtain ⟨-, -, -, -, -, c5, c6⟩ := h.cellsM
  obtain ⟨ta, tc, rfl⟩ := owns_form h.rt
  obtain ⟨pa, pc, rfl⟩ := owns_form h.rp
  have hmb : mb < w.heap.size := lt_of_cell c5
  have c5' := fun o => cell_keep (below1 w o) c5
  have c5'' := fun o o' => cell_keep ((below1 w o).alloc (by simp) o') c5
  obtain ⟨nt, hnt⟩ : ∃ n, n = s.things.length := ⟨_, rfl⟩
  obtain ⟨np, hnp⟩ : ∃ n, n = s.places.length := ⟨_, rfl⟩
  have hsz : (w2.setCell ⟨mb, 5, none⟩ (.slice ya yn yc)).heap.size = w2.heap.size := by simp
  rw [hsz] at hr3
  rw [← hnt] at hr c5 c5' c5'' d0
  rw [← hnp] at hr3 k0 e0 c6
  have k0' := fun o => cell_keep (below1 _ o) k0
  have HM : Hid (∃ xt' xp', Mach (w3.setCell ⟨mb, 6, none⟩ (.slice za zn zc)) B Bt mb n1 n2 (addT s k) (layT l w.heap.size) v1 v2 v3 xv xf xt' xp' ∧ Below B w (w3.setCell ⟨mb, 6, none⟩ (.slice za zn zc))) := ⟨_, _, hM, hB⟩
  unfold ptrV at hr
  unfold ptrV
  clear hM hB h hnt hnp hl hsz c6
  go_enter Tryz.func128, Tryz.ntmps128
  go_wp2_with (at_builtin; first | (refine Lib.wpList_append_run _ rfl _ _ _ _ rfl _ _ rfl rfl _ _ hr ?_) | (refine Lib.wpList_append_run _ rfl _ _ _ _ rfl _ _ rfl rfl _ _ hr3 ?_))
  go_ret
  exact ⟨rfl, HM.out⟩

theorem set_other (w : World) (g k : Nat) (x : Value) (b : Nat) (h : g ≠ b) : (w.setCell ⟨g, k, none⟩ x).heap[b]? = w.heap[b]? := by
  simp only [World.setCell, Array.getElem?_modify]
  rw [if_neg h]
theorem new_at (w : World) (n : Nat) (o : Obj) (h : w.heap.size = n) : (w.alloc o).heap[n]? = some o := by
  subst h; exact heap_new w o
/-- So far k cells are laid. -/
def laidC (bs : Nat → Nat) (k : Nat) (j : Nat) : Value := if j < k then ptrV (bs j) else .pointer none
theorem make_cells (n : Nat) (hn : n ≤ 1000000) (w : World) : (Instr.makeSlice 172 (.int .i64 (n : Int)) (.int .i64 (n : Int))).run Tryz.prog w = .ok (.slice (some ⟨w.heap.size, 0, none⟩) n n) (w.alloc (.cells (madeCells #[.pointer none] n) 176)) :=
  Go.run_make_row' (P := Tryz.prog) 172 176 (.pointer none) 8 Tryz.underlying172 Tryz.infoCellP rfl .i64 .i64 n (by omega) (by omega) w
theorem owns_of_row {w : World} {g n : Nat} {e : TypeId} {bs : List Nat} (hl : bs.length = n) (hn : n ≤ 1000000) (h : w.rowIs g e n (fun j => ptrV (bs.getD j 0))) : w.ownsRow g e 1 (.slice (some ⟨g, 0, none⟩) n n) n (bs.map ptrV) := by
  obtain ⟨c, h1, h2, h3⟩ := h
  refine ⟨by simp [hl], Or.inr ⟨g, n, c, rfl, Nat.le_refl _, h1, Nat.le_refl _, by unfold maxLen; omega, by simp [h2], ?_⟩⟩
  apply List.ext_getElem?
  intro i
  by_cases hi : i < n
  · have := h3 i hi
    rw [List.getElem?_take_of_lt (by simpa using hi)]
    simp only [Array.getElem?_toList]
    rw [this]
    simp [List.getD, show i < bs.length by omega]
  · rw [List.getElem?_eq_none (by simp; omega), List.getElem?_eq_none (by simp; omega)]

set_option maxRecDepth 100000 in
set_option maxHeartbeats 4000000 in
theorem newCells_any (kb : ByteArray) (n : Nat) (w : World) (hn : n ≤ 1000000) :
    Calls Tryz.prog 126 #[.string kb, .int .i64 (n : Int)] w fun e w' => ∃ bs : List Nat, bs.length = n ∧ e = .returned (.slice (some ⟨w.heap.size, 0, none⟩) n n) ∧ w'.ownsRow w.heap.size 176 1 (.slice (some ⟨w.heap.size, 0, none⟩) n n) n (bs.map ptrV) ∧ (∀ i, i < n → w.heap.size ≤ bs.getD i 0 ∧ w'.heap[bs.getD i 0]? = some (.cells #[.string kb, .int .i64 (i : Int), .pointer none] 178 (0, 0))) ∧ Below w.heap.size w w' := by
  have hmk := make_cells n hn
  go_enter Tryz.func126, Tryz.ntmps126
  go_wp2_with fail
  clear hmk
  go_loopw [11] (fun t wr => ∃ (k : Nat) (bs : List Nat), k ≤ n ∧ bs.length = k ∧ t = .int .i64 k ∧ wr.rowIs w.heap.size 176 n (laidC (fun j => bs.getD j 0) k) ∧ (∀ i, i < k → w.heap.size < bs.getD i 0 ∧ wr.heap[bs.getD i 0]? = some (.cells #[.string kb, .int .i64 (i : Int), .pointer none] 178 (0, 0))) ∧ Below w.heap.size w wr) (fun t _ => (n - intOf t).toNat)
  case atStart =>
    refine ⟨0, [], Nat.zero_le _, rfl, rfl, ?_, fun i hi => absurd hi (Nat.not_lt_zero _), below1 w _⟩
    exact ((World.rowIs_made w (.pointer none) n 176).congr fun i hi => by unfold laidC; rw [if_neg (Nat.not_lt_zero _)])
  case round =>
    obtain ⟨k, bs, hk, hbl, rfl, hrow, hcs, hB⟩ := hrel
    have hgz : w.heap.size < wr.heap.size := by
      obtain ⟨c, h1, _⟩ := hrow
      exact (Array.getElem?_eq_some_iff.1 h1).1
    by_cases hlt : k < n
    · have hfz := fun o => (hrow.alloc o).frozen k
      have hcl := fun o => (hrow.alloc o).cell hlt
      have HR : Hid (wr.rowIs w.heap.size 176 n (laidC (fun j => bs.getD j 0) k)) := hrow
      have HC : Hid (∀ i, i < k → w.heap.size < bs.getD i 0 ∧ wr.heap[bs.getD i 0]? = some (.cells #[.string kb, .int .i64 (i : Int), .pointer none] 178 (0, 0))) := hcs
      clear hrow hcs
      go_wp2_with fail
      go_roundw
      case rel =>
        refine ⟨k + 1, bs ++ [wr.heap.size], hlt, by simp [hbl], by go_num, ?_, ?_, ?_⟩
        · refine ((HR.out.set k _).alloc _).congr fun i hi => ?_
          unfold laidC
          by_cases e : i = k
          · rw [if_pos e, if_pos (by omega)]
            show _ = ptrV ((bs ++ [wr.heap.size]).getD i 0)
            rw [getD_snoc_last bs wr.heap.size 0 i (by omega)]; rfl
          · rw [if_neg e]
            by_cases g : i < k
            · rw [if_pos g, if_pos (by omega)]
              show _ = ptrV ((bs ++ [wr.heap.size]).getD i 0)
              rw [getD_snoc_left bs wr.heap.size 0 i (by omega)]
            · rw [if_neg g, if_neg (by omega)]
        · intro i hi
          by_cases g : i < k
          · rw [getD_snoc_left bs wr.heap.size 0 i (by omega)]
            obtain ⟨q1, q2⟩ := HC.out i g
            refine ⟨q1, block_keep (below1 _ _) ?_⟩
            rw [set_other _ _ _ _ _ (by omega)]; exact q2
          · have hik : i = k := by omega
            subst hik
            rw [getD_snoc_last bs wr.heap.size 0 i (by omega)]
            exact ⟨hgz, new_at _ _ _ (by simp)⟩
        · have hb := hB.setCell (p := ⟨w.heap.size, k, none⟩) (Nat.le_refl _) (.pointer (some ⟨wr.heap.size, 0, none⟩))
          exact hb.alloc hb.size _
      case measure => simp [intOf]; omega
    · have hkn : k = n := by omega
      subst hkn
      have HF : Hid (wr.ownsRow w.heap.size 176 1 (.slice (some ⟨w.heap.size, 0, none⟩) k k) k (bs.map ptrV)) := owns_of_row hbl hn (hrow.congr fun i hi => by unfold laidC; rw [if_pos hi])
      have HC : Hid (∀ i, i < k → w.heap.size < bs.getD i 0 ∧ wr.heap[bs.getD i 0]? = some (.cells #[.string kb, .int .i64 (i : Int), .pointer none] 178 (0, 0))) := hcs
      clear hrow hcs
      go_wp2_with fail
      go_ret
      exact ⟨bs, hbl, rfl, HF.out, fun i hi => ⟨Nat.le_of_lt (HC.out i hi).1, (HC.out i hi).2⟩, hB⟩
end Go.Proofs.YteekjigaicmohaaGreatDoor

/-
  Package run: newMachine, by a contract.
-/
namespace Go.Proofs.YteekjigaicmohaaGreatDoor
open Go.RowKit Go.Extern.Stop Go.Stop Go.Extern

def st0 (n : Nat) : StD := ⟨List.replicate n none, [], []⟩
theorem keep3 {w0 w : World} {p0 p1 p2 : Addr} {v0 v1 v2 : Value} (k0 : w0.cell? p0 = some v0) (k1 : w0.cell? p1 = some v1) (k2 : w0.cell? p2 = some v2) (hb : Below w0.heap.size w0 w) : Below w0.heap.size w0 w ∧ w.cell? p0 = some v0 ∧ w.cell? p1 = some v1 ∧ w.cell? p2 = some v2 :=
  ⟨hb, cell_keep hb k0, cell_keep hb k1, cell_keep hb k2⟩
theorem below_al {w0 w : World} (h : Below w0.heap.size w0 w) (o : Obj) : Below w0.heap.size w0 (w.alloc o) := h.alloc h.size o

theorem owns_block {w : World} {B g n c : Nat} {e : TypeId} {xs : List Value} (h : w.ownsRow B e 1 (.slice (some ⟨g, 0, none⟩) n c) n xs) : g < w.heap.size := by
  rcases h.2 with ⟨q, _⟩ | ⟨g', cap, cur, q, _, hh, _⟩
  · cases q
  · cases q
    exact (Array.getElem?_eq_some_iff.1 hh).1
theorem mach_new {w5 w6 : World} {B n1 n2 g1 : Nat} {bs1 bs2 : List Nat} (v1 v2 v3 : Value) (hw : B ≤ g1) (h1 : bs1.length = n1) (ho1 : w5.ownsRow g1 176 1 (.slice (some ⟨g1, 0, none⟩) n1 n1) n1 (bs1.map ptrV))
    (hc1 : ∀ i, i < n1 → g1 ≤ bs1.getD i 0 ∧ w5.heap[bs1.getD i 0]? = some (.cells #[.string ⟨#[118, 97, 114]⟩, .int .i64 (i : Int), .pointer none] 178 (0, 0))) (h2 : bs2.length = n2)
    (ho2 : w6.ownsRow w5.heap.size 176 1 (.slice (some ⟨w5.heap.size, 0, none⟩) n2 n2) n2 (bs2.map ptrV)) (hc2 : ∀ i, i < n2 → w5.heap.size ≤ bs2.getD i 0 ∧ w6.heap[bs2.getD i 0]? = some (.cells #[.string ⟨#[102, 117, 110]⟩, .int .i64 (i : Int), .pointer none] 178 (0, 0)))
    (hB : Below w5.heap.size w5 w6) :
    Mach (w6.alloc (.cells #[v1, v2, v3, .slice (some ⟨g1, 0, none⟩) n1 n1, .slice (some ⟨w5.heap.size, 0, none⟩) n2 n2, .slice none 0 0, .slice none 0 0] 175)) B (w6.heap.size + 1) w6.heap.size n1 n2 (st0 n1) ⟨bs1, bs2, []⟩ v1 v2 v3 (.slice (some ⟨g1, 0, none⟩) n1 n1) (.slice (some ⟨w5.heap.size, 0, none⟩) n2 n2) (.slice none 0 0) (.slice none 0 0) := by
  have hg1 := owns_block ho1
  have hg2 := owns_block ho2
  have hs := hB.size
  refine ⟨by omega, by omega, by simp, heap_new w6 _, owns_mono (owns_below (owns_below ho1 hB) (below1 w6 _)) hw, owns_mono (owns_below ho2 (below1 w6 _)) (by omega), ?_, ?_, World.ownsRow_nil _ _ _ _, World.ownsRow_nil _ _ _ _, h1, h2, rfl, rfl, by simp [st0], ?_, ?_, ?_⟩
  · intro g hg
    have : g1 = g := by simpa [Value.ownBlock] using hg
    omega
  · intro g hg
    have : w5.heap.size = g := by simpa [Value.ownBlock] using hg
    omega
  · intro r hr
    cases r using ref_cases with
    | var i =>
      obtain ⟨q1, q2⟩ := hc1 i hr
      have hg : (st0 n1).get (.var i) = none := by
        have hi : i < n1 := hr
        simp [StD.get, st0, List.getD, hi]
      unfold CellAt
      rw [hg]
      exact ⟨Nat.le_trans hw q1, block_keep (below1 w6 _) (block_keep hB q2)⟩
    | fn i =>
      obtain ⟨q1, q2⟩ := hc2 i hr
      exact ⟨Nat.le_trans (by omega) q1, block_keep (below1 w6 _) q2⟩
    | thing i => exact absurd hr (Nat.not_lt_zero _)
  · intro r hr x hx
    rw [List.eq_of_mem_replicate hr] at hx
    cases hx
  · intro r hr
    cases hr

set_option maxRecDepth 100000 in
set_option maxHeartbeats 8000000 in
theorem newMachine_any (P : ProgD) (v1 v2 v3 : Value) (w : World) (hs : SmallP P) (h : IsProg w v1 v2 v3 P) :
    Calls Tryz.prog 79 #[.agg #[v1, v2, v3]] w fun e w' => ∃ mb Bt l xv xf, e = .returned (.pointer (some ⟨mb, 0, none⟩)) ∧ Mach w' w.heap.size Bt mb P.vars.length P.funs.length (st0 P.vars.length) l v1 v2 v3 xv xf (.slice none 0 0) (.slice none 0 0) ∧ Below w.heap.size w w' := by
  obtain ⟨⟨a1, c1, rfl, -, -⟩, ⟨a2, c2, rfl, -, -⟩, ⟨a3, c3, rfl, -, -⟩⟩ := h
  obtain ⟨n1, hn1⟩ : ∃ m, m = P.vars.length := ⟨_, rfl⟩
  obtain ⟨n2, hn2⟩ : ∃ m, m = P.funs.length := ⟨_, rfl⟩
  obtain ⟨n3, hn3⟩ : ∃ m, m = P.stmts.length := ⟨_, rfl⟩
  have hs1 : n1 ≤ 1000000 := by rw [hn1]; have := hs.1; omega
  have hs2 : n2 ≤ 1000000 := by rw [hn2]; have := hs.2.1; omega
  rw [← hn1, ← hn2, ← hn3]
  obtain ⟨W, hW⟩ : ∃ W, W = w.alloc (.cells #[.slice a1 n1 c1, .slice a2 n2 c2, .slice a3 n3 c3] 26) := ⟨_, rfl⟩
  have hBW : Below w.heap.size w W := by rw [hW]; exact below1 w _
  have hX : Box3 W w.heap.size (.slice a1 n1 c1) (.slice a2 n2 c2) (.slice a3 n3 c3) := by rw [hW]; exact box3_new w _ _ _ _
  obtain ⟨p0, p1, p2⟩ := hX
  have KV : Hid (∀ wx, Calls Tryz.prog 126 #[.string ⟨#[118, 97, 114]⟩, .int .i64 (n1 : Int)] wx fun e w' => ∃ bs : List Nat, bs.length = n1 ∧ e = .returned (.slice (some ⟨wx.heap.size, 0, none⟩) n1 n1) ∧ w'.ownsRow wx.heap.size 176 1 (.slice (some ⟨wx.heap.size, 0, none⟩) n1 n1) n1 (bs.map ptrV) ∧ (∀ i, i < n1 → wx.heap.size ≤ bs.getD i 0 ∧ w'.heap[bs.getD i 0]? = some (.cells #[.string ⟨#[118, 97, 114]⟩, .int .i64 (i : Int), .pointer none] 178 (0, 0))) ∧ Below wx.heap.size wx w') := fun wx => newCells_any _ n1 wx hs1
  have KF : Hid (∀ wx, Calls Tryz.prog 126 #[.string ⟨#[102, 117, 110]⟩, .int .i64 (n2 : Int)] wx fun e w' => ∃ bs : List Nat, bs.length = n2 ∧ e = .returned (.slice (some ⟨wx.heap.size, 0, none⟩) n2 n2) ∧ w'.ownsRow wx.heap.size 176 1 (.slice (some ⟨wx.heap.size, 0, none⟩) n2 n2) n2 (bs.map ptrV) ∧ (∀ i, i < n2 → wx.heap.size ≤ bs.getD i 0 ∧ w'.heap[bs.getD i 0]? = some (.cells #[.string ⟨#[102, 117, 110]⟩, .int .i64 (i : Int), .pointer none] 178 (0, 0))) ∧ Below wx.heap.size wx w') := fun wx => newCells_any _ n2 wx hs2
  clear hn1 hn2 hn3 hs
  go_enter Tryz.func79, Tryz.ntmps79
  go_upto_region 1 with fail
  rw [← hW]
  clear hW
  go_region_held3 (fun wx => Below W.heap.size W wx ∧ wx.cell? ⟨w.heap.size, 0, none⟩ = some (.slice a1 n1 c1) ∧ wx.cell? ⟨w.heap.size, 1, none⟩ = some (.slice a2 n2 c2) ∧ wx.cell? ⟨w.heap.size, 2, none⟩ = some (.slice a3 n3 c3))
    ((go_split_ands; refine keep3 p0 p1 p2 ?_; repeat (with_reducible first | assumption | exact Below.refl _ _ | refine Below.drew ?_ | refine below_al ?_ _)))
    (first
      | (go_at_call 126; have hguard := hb5.size; clear hguard; refine (KF.out _).mono ?_; rintro e w6 ⟨bs2, f1, rfl, f2, f3, f4⟩; have hb6 : Below W.heap.size W w6 := hb5.trans (f4.mono hb5.size); have F3 : Hid (∀ i, i < n2 → w5.heap.size ≤ bs2.getD i 0 ∧ w6.heap[bs2.getD i 0]? = some (.cells #[.string ⟨#[102, 117, 110]⟩, .int .i64 (i : Int), .pointer none] 178 (0, 0))) := f3; clear f3)
      | (go_at_call 126; refine (KV.out _).mono ?_; rintro e w5 ⟨bs1, g1, rfl, g2, g3, g4⟩; have hb5 : Below W.heap.size W w5 := Below.trans (Below.refl _ W).drew (Below.mono g4 (Nat.le_refl _)); have G3 : Hid (∀ i, i < n1 → W.heap.size ≤ bs1.getD i 0 ∧ w5.heap[bs1.getD i 0]? = some (.cells #[.string ⟨#[118, 97, 114]⟩, .int .i64 (i : Int), .pointer none] 178 (0, 0))) := g3; clear g3 g4))
  go_wp2_with fail
  go_ret
  refine ⟨_, _, _, _, _, rfl, mach_new _ _ _ hBW.size g1 g2 G3.out f1 f2 F3.out f4, ?_⟩
  exact (hBW.trans (hb6.mono hBW.size)).alloc (hBW.trans (hb6.mono hBW.size)).size _
end Go.Proofs.YteekjigaicmohaaGreatDoor
