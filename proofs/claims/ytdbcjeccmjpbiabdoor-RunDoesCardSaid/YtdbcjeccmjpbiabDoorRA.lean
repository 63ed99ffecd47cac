/-
  Package run: what a machine is, as plain data and in memory; what a store does to it.
-/
import Derived.Test.YtdbcjeccmjpbiabDoorPMem
namespace Go.Proofs.YtdbcjeccmjpbiabDoor
open Go.RowKit Go.Extern.Stop Go.Stop Go.Extern

/-- What a variable or a thing can have the address of. -/
abbrev Ref := Nat ⊕ Nat ⊕ Nat
abbrev Ref.var (i : Nat) : Ref := .inl i
abbrev Ref.thing (i : Nat) : Ref := .inr (.inl i)
abbrev Ref.fn (i : Nat) : Ref := .inr (.inr i)
theorem ref_cases {motive : Ref → Prop} (r : Ref) (var : ∀ i, motive (Ref.var i)) (thing : ∀ i, motive (Ref.thing i)) (fn : ∀ i, motive (Ref.fn i)) : motive r := by
  rcases r with i | i | i
  · exact var i
  · exact thing i
  · exact fn i
/-- A machine. -/
structure StD where
  vars : List (Option Ref)
  things : List (Option Ref)
  places : List Int
def StD.get (s : StD) : Ref → Option Ref
  | .inl i => s.vars.getD i none
  | .inr (.inl i) => s.things.getD i none
  | .inr (.inr _) => none
def StD.put (s : StD) (r : Ref) (x : Option Ref) : StD := match r with
  | .inl i => { s with vars := s.vars.set i x }
  | .inr (.inl i) => { s with things := s.things.set i x }
  | .inr (.inr _) => s
def Ref.isFn : Ref → Bool
  | .inr (.inr _) => true
  | _ => false
/-- The numbers of a machine's references are there. -/
def Ref.ok (n1 n2 nt : Nat) : Ref → Prop
  | .inl i => i < n1
  | .inr (.inl i) => i < nt
  | .inr (.inr i) => i < n2
def OkO (n1 n2 nt : Nat) (r : Option Ref) : Prop := ∀ x, r = some x → x.ok n1 n2 nt

/-- Where the cells of a machine lie. -/
structure Lay where
  vb : List Nat
  fb : List Nat
  tb : List Nat
def Lay.at (l : Lay) : Ref → Nat
  | .inl i => l.vb.getD i 0
  | .inr (.inl i) => l.tb.getD i 0
  | .inr (.inr i) => l.fb.getD i 0
def refKind : Ref → ByteArray
  | .inl _ => ⟨#[118, 97, 114]⟩
  | .inr (.inl _) => ⟨#[116, 104, 105, 110, 103]⟩
  | .inr (.inr _) => ⟨#[102, 117, 110]⟩
def refNo : Ref → Nat
  | .inl i => i
  | .inr (.inl i) => i
  | .inr (.inr i) => i
theorem ref_eq {r r' : Ref} (h1 : refKind r = refKind r') (h2 : refNo r = refNo r') : r = r' := by
  rcases r with i | i | i <;> rcases r' with j | j | j <;> simp_all [refKind, refNo]
def ptrV (b : Nat) : Value := .pointer (some ⟨b, 0, none⟩)
def hasV (l : Lay) (r : Option Ref) : Value := .pointer (r.map fun x => ⟨l.at x, 0, none⟩)
/-- One cell of a machine. -/
def CellAt (w : World) (B : Nat) (l : Lay) (s : StD) (r : Ref) : Prop :=
  B ≤ l.at r ∧ w.heap[l.at r]? = some (.cells #[.string (refKind r), .int .i64 (refNo r : Int), hasV l (s.get r)] 92 (0, 0))
structure Mach (w : World) (B Bt mb : Nat) (n1 n2 : Nat) (s : StD) (l : Lay) (v1 v2 v3 xv xf xt xp : Value) : Prop where
  low : B ≤ mb
  hBt : B ≤ Bt
  hBw : Bt ≤ w.heap.size
  blk : w.heap[mb]? = some (.cells #[v1, v2, v3, xv, xf, xt, xp] 89 (0, 0))
  rv : w.ownsRow B 90 1 xv n1 (l.vb.map ptrV)
  rf : w.ownsRow B 90 1 xf n2 (l.fb.map ptrV)
  rvb : ∀ g, xv.ownBlock = some g → g < Bt
  rfb : ∀ g, xf.ownBlock = some g → g < Bt
  rt : w.ownsRow Bt 90 1 xt s.things.length (l.tb.map ptrV)
  rp : w.ownsRow Bt 3 1 xp s.places.length (s.places.map intV)
  lv : l.vb.length = n1
  lf : l.fb.length = n2
  lt : l.tb.length = s.things.length
  lp : s.places.length = s.things.length
  ls : s.vars.length = n1
  cells : ∀ r, r.ok n1 n2 s.things.length → CellAt w B l s r
  okv : ∀ r ∈ s.vars, OkO n1 n2 s.things.length r
  okt : ∀ r ∈ s.things, OkO n1 n2 s.things.length r

theorem Mach.below {w w' : World} {B Bt mb n1 n2 : Nat} {s : StD} {l : Lay} {v1 v2 v3 xv xf xt xp : Value} (h : Mach w B Bt mb n1 n2 s l v1 v2 v3 xv xf xt xp) (hb : Below w.heap.size w w') : Mach w' B Bt mb n1 n2 s l v1 v2 v3 xv xf xt xp :=
  ⟨h.low, h.hBt, Nat.le_trans h.hBw hb.size, block_keep hb h.blk, owns_below h.rv hb, owns_below h.rf hb, h.rvb, h.rfb, owns_below h.rt hb, owns_below h.rp hb, h.lv, h.lf, h.lt, h.lp, h.ls, fun r hr => ⟨(h.cells r hr).1, block_keep hb (h.cells r hr).2⟩, h.okv, h.okt⟩
theorem Mach.size {w : World} {B Bt mb n1 n2 : Nat} {s : StD} {l : Lay} {v1 v2 v3 xv xf xt xp : Value} (h : Mach w B Bt mb n1 n2 s l v1 v2 v3 xv xf xt xp) : B ≤ w.heap.size := Nat.le_trans h.low (Nat.le_of_lt (Array.getElem?_eq_some_iff.1 h.blk).1)
theorem getD_ok {n1 n2 nt : Nat} {l : List (Option Ref)} (h : ∀ r ∈ l, OkO n1 n2 nt r) (i : Nat) : OkO n1 n2 nt (l.getD i none) := by
  by_cases hi : i < l.length
  · have : l.getD i none = l[i] := by simp [List.getD, hi]
    rw [this]; exact h _ (List.getElem_mem hi)
  · intro x hx
    simp [List.getD, List.getElem?_eq_none (Nat.le_of_not_lt hi)] at hx
theorem Mach.get_ok {w : World} {B Bt mb n1 n2 : Nat} {s : StD} {l : Lay} {v1 v2 v3 xv xf xt xp : Value} (h : Mach w B Bt mb n1 n2 s l v1 v2 v3 xv xf xt xp) (r : Ref) : OkO n1 n2 s.things.length (s.get r) := by
  cases r using ref_cases with
  | var i => exact getD_ok h.okv i
  | thing i => exact getD_ok h.okt i
  | fn i => intro x hx; cases hx
/-- Two references lie in one block only if they are one. -/
theorem Mach.at_inj {w : World} {B Bt mb n1 n2 : Nat} {s : StD} {l : Lay} {v1 v2 v3 xv xf xt xp : Value} (h : Mach w B Bt mb n1 n2 s l v1 v2 v3 xv xf xt xp) {r r' : Ref} (hr : r.ok n1 n2 s.things.length) (hr' : r'.ok n1 n2 s.things.length) (he : l.at r = l.at r') : r = r' := by
  have h1 := (h.cells r hr).2
  have h2 := (h.cells r' hr').2
  rw [he, h2] at h1
  simp only [Option.some.injEq, Obj.cells.injEq, Array.mk.injEq, List.cons.injEq, Value.string.injEq, Value.int.injEq] at h1
  exact (ref_eq h1.1.1 (by omega)).symm
theorem put_things {s : StD} {r : Ref} {x : Option Ref} : (s.put r x).things.length = s.things.length := by
  rcases r with i | i | i <;> simp [StD.put]
theorem put_places {s : StD} {r : Ref} {x : Option Ref} : (s.put r x).places = s.places := by
  rcases r with i | i | i <;> rfl
theorem put_vars {s : StD} {r : Ref} {x : Option Ref} : (s.put r x).vars.length = s.vars.length := by
  rcases r with i | i | i <;> simp [StD.put]
theorem getD_set_same {α : Type} (l : List α) (i : Nat) (x d : α) (h : i < l.length) : (l.set i x).getD i d = x := by simp [List.getD, h]
theorem getD_set_other {α : Type} (l : List α) (i j : Nat) (x d : α) (h : i ≠ j) : (l.set i x).getD j d = l.getD j d := by simp [List.getD, h]
theorem get_put_same {s : StD} {n1 n2 : Nat} {r : Ref} {x : Option Ref} (hs : s.vars.length = n1) (hr : r.ok n1 n2 s.things.length) (hf : r.isFn = false) : (s.put r x).get r = x := by
  cases r using ref_cases with
  | var i => exact getD_set_same _ _ _ _ (by rw [hs]; exact hr)
  | thing i => exact getD_set_same _ _ _ _ hr
  | fn i => cases hf
theorem get_put_other {s : StD} {r r' : Ref} {x : Option Ref} (h : r ≠ r') : (s.put r x).get r' = s.get r' := by
  cases r using ref_cases with
  | var i =>
    cases r' using ref_cases with
    | var j => exact getD_set_other _ _ _ _ _ (fun q => h (by rw [q]))
    | thing j => rfl
    | fn j => rfl
  | thing i =>
    cases r' using ref_cases with
    | var j => rfl
    | thing j => exact getD_set_other _ _ _ _ _ (fun q => h (by rw [q]))
    | fn j => rfl
  | fn i => rfl
theorem mem_set_ok {n1 n2 nt : Nat} {l : List (Option Ref)} (h : ∀ r ∈ l, OkO n1 n2 nt r) (i : Nat) {x : Option Ref} (hx : OkO n1 n2 nt x) : ∀ r ∈ l.set i x, OkO n1 n2 nt r := fun r hr => by
  rcases List.mem_or_eq_of_mem_set hr with q | q
  · exact h r q
  · rw [q]; exact hx
/-- A reference gets what another one has. -/
theorem Mach.put {w : World} {B Bt mb n1 n2 : Nat} {s : StD} {l : Lay} {v1 v2 v3 xv xf xt xp : Value} (h : Mach w B Bt mb n1 n2 s l v1 v2 v3 xv xf xt xp) {r : Ref} (hr : r.ok n1 n2 s.things.length) (hf : r.isFn = false) {x : Option Ref} (hx : OkO n1 n2 s.things.length x) :
    Mach (w.setCell ⟨l.at r, 2, none⟩ (hasV l x)) B Bt mb n1 n2 (s.put r x) l v1 v2 v3 xv xf xt xp := by
  have hb := (h.cells r hr).2
  have hk := kept_setCell (i := 2) hb (hasV l x)
  refine ⟨h.low, h.hBt, by simpa using h.hBw, hk _ _ _ _ h.blk (by decide), owns_kept h.rv hk (by decide), owns_kept h.rf hk (by decide), h.rvb, h.rfb, ?_, ?_, h.lv, h.lf, ?_, ?_, ?_, ?_, ?_, ?_⟩
  · rw [put_things]; exact owns_kept h.rt hk (by decide)
  · rw [put_places]; exact owns_kept h.rp hk (by decide)
  · rw [put_things]; exact h.lt
  · rw [put_things, put_places]; exact h.lp
  · rw [put_vars]; exact h.ls
  · intro r' hr'
    rw [put_things] at hr'
    refine ⟨(h.cells r' hr').1, ?_⟩
    by_cases he : r = r'
    · subst he
      rw [get_put_same h.ls hr hf, set_block _ _ _ _ _ _ hb]
      rfl
    · have hne : l.at r ≠ l.at r' := fun q => he (h.at_inj hr hr' q)
      rw [get_put_other he]
      have : (w.setCell ⟨l.at r, 2, none⟩ (hasV l x)).heap[l.at r']? = w.heap[l.at r']? := by
        simp only [World.setCell, Array.getElem?_modify]
        rw [if_neg hne]
      rw [this]; exact (h.cells r' hr').2
  · rw [put_things]
    cases r using ref_cases with
    | var i => exact mem_set_ok h.okv i hx
    | thing i => exact h.okv
    | fn i => cases hf
  · rw [put_things]
    cases r using ref_cases with
    | var i => exact h.okt
    | thing i => exact mem_set_ok h.okt i hx
    | fn i => cases hf
end Go.Proofs.YtdbcjeccmjpbiabDoor
