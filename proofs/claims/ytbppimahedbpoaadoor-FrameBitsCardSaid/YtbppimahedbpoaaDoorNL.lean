/-
  Package frame, plain: what is written is read, and a text is one frame's alone.
-/
import Derived.Test.YtbppimahedbpoaaDoorNJ
namespace Go.Proofs.YtbppimahedbpoaaDoor
open Go.RowKit Go.Extern.Stop Go.Stop Go.Extern

theorem high1_of (m : Bs) (h : m.length = 1) : highD 1 (bytesN m) = m := by
  obtain ⟨a, rfl⟩ := List.length_eq_one_iff.1 h
  rw [high1]
  have : byteN (bytesN [a]) = a := UInt8.toNat_inj.1 (by
    rw [byteN_toNat]
    have := a.toNat_lt
    simp [bytesN])
  rw [this]
theorem high4_of (m : Bs) (h : m.length = 4) : highD 4 (bytesN m) = m := by
  obtain ⟨a, m, rfl⟩ := List.exists_cons_of_length_eq_add_one h
  obtain ⟨b, m, rfl⟩ := List.exists_cons_of_length_eq_add_one (show m.length = 2 + 1 by simpa using h)
  obtain ⟨c, m, rfl⟩ := List.exists_cons_of_length_eq_add_one (show m.length = 1 + 1 by simpa using h)
  obtain ⟨d, rfl⟩ := List.length_eq_one_iff.1 (show m.length = 1 by simpa using h)
  exact bytes_high a b c d
theorem high1_tk (l : Bs) (i : Nat) (h : i < l.length) : highD 1 (tkD l i 1) = (l.drop i).take 1 := high1_of _ (by rw [List.length_take, List.length_drop]; omega)
theorem high4_tk (l : Bs) (i : Nat) (h : i + 4 ≤ l.length) : highD 4 (tkD l i 4) = (l.drop i).take 4 := high4_of _ (by rw [List.length_take, List.length_drop]; omega)
theorem take_add' (l : Bs) (a b : Nat) : l.take (a + b) = l.take a ++ (l.drop a).take b := List.take_add
theorem flat_nums (l : Bs) (c : Nat) (h : 8 + 4 * c ≤ l.length) : ((numsD l c).flatMap fun n => highD 4 n.toNat) = (l.drop 8).take (4 * c) := by
  induction c with
  | zero => simp [numsD]
  | succ c ih =>
    rw [numsD_next, List.flatMap_append, ih (by omega), List.flatMap_singleton, show 4 * (c + 1) = 4 * c + 4 by omega, take_add', List.drop_drop, Int.toNat_natCast, high4_tk l _ (by omega)]
theorem body_of (l : Bs) (h : l.length = 12 + 4 * tkD l 7 1) : bodyD (fieldsD l) = bodyS l := by
  unfold bodyD bodyS fieldsD
  simp only [Int.toNat_natCast, numsD_len]
  rw [high1_tk l 0 (by omega), high1_tk l 1 (by omega), high1_tk l 2 (by omega), high4_tk l 3 (by omega), high1_tk l 7 (by omega), flat_nums l _ (by omega)]
  rw [show l.length - 4 = 7 + 1 + 4 * tkD l 7 1 by omega, take_add' l (7 + 1), take_add' l 7 1, show (7 : Nat) = 3 + 4 from rfl, take_add' l 3 4, show (3 : Nat) = 2 + 1 from rfl, take_add' l 2 1, show (2 : Nat) = 1 + 1 from rfl, take_add' l 1 1]
  simp only [List.drop_zero]
/-- What is read of a text is its frame. -/
theorem decode_text {l : Bs} (h : (decodeD l).2 = none) : frameE (decodeD l).1 = none ∧ textD (decodeD l).1 = l ∧ l.length = 12 + 4 * (decodeD l).1.nums.length := by
  unfold decodeD at h ⊢
  split at h
  · cases h
  rename_i h1
  rw [if_neg h1]
  split at h
  · cases h
  rename_i h2
  rw [if_neg h2]
  split at h
  · cases h
  rename_i h3
  rw [if_neg h3]
  have e2 : l.length = 12 + 4 * tkD l 7 1 := Classical.not_not.1 h2
  have e3 : lastS l = lowD (crcD (bodyS l)) := Classical.not_not.1 h3
  split at h
  · cases h
  rename_i h4
  rw [h4]
  refine ⟨rfl, ?_, ?_⟩
  · unfold textD
    rw [body_of l e2, ← e3]
    exact List.take_append_drop _ _
  · show l.length = 12 + 4 * (numsD l _).length
    rw [numsD_len]
    exact e2
theorem decode_none {l : Bs} {i : Nat} (h : (decodeD l).2 = some i) : (decodeD l).1 = noFrame := by
  unfold decodeD at h ⊢
  split
  · rfl
  split
  · rfl
  split
  · rfl
  rename_i h1 h2 h3
  rw [if_neg h1, if_neg h2, if_neg h3] at h
  split at h
  · rfl
  · cases h
/-- A frame whose numbers fit their bytes. -/
structure InBy (f : FrameD) : Prop where
  kind : 0 ≤ f.kind ∧ f.kind < 256
  frm : 0 ≤ f.frm ∧ f.frm < 256
  to : 0 ≤ f.to ∧ f.to < 256
  seq : 0 ≤ f.seq ∧ f.seq < 4294967296
  nums : ∀ n ∈ f.nums, 0 ≤ n ∧ n < 4294967296
  few : f.nums.length < 256
theorem FrameOk.inBy {f : FrameD} (h : FrameOk f) : InBy f :=
  ⟨by have := h.kind; omega, by have := h.frm; omega, by have := h.to; omega, by have := h.seq; omega, fun n hn => by have := h.nums n hn; omega, by have := h.few; omega⟩
theorem inBy_of (l : Bs) : InBy (fieldsD l) := by
  have h1 : ∀ i, tkD l i 1 < 256 := fun i => tkD_lt l i 1
  have h4 : ∀ i, tkD l i 4 < 4294967296 := fun i => tkD_lt l i 4
  refine ⟨⟨by simp [fieldsD], ?_⟩, ⟨by simp [fieldsD], ?_⟩, ⟨by simp [fieldsD], ?_⟩, ⟨by simp [fieldsD], ?_⟩, fun n hn => ?_, ?_⟩
  · have := h1 0; show ((tkD l 0 1 : Nat) : Int) < 256; omega
  · have := h1 1; show ((tkD l 1 1 : Nat) : Int) < 256; omega
  · have := h1 2; show ((tkD l 2 1 : Nat) : Int) < 256; omega
  · have := h4 3; show ((tkD l 3 4 : Nat) : Int) < 4294967296; omega
  · obtain ⟨j, -, rfl⟩ := List.mem_map.1 hn
    have := h4 (8 + 4 * j)
    omega
  · show (numsD l _).length < 256
    rw [numsD_len]
    exact h1 7
theorem byteN_small {x y : Nat} (hx : x < 256) (hy : y < 256) (h : byteN x = byteN y) : x = y := by
  have := byteN_inj h
  omega
theorem high4_inj {x y : Nat} (hx : x < 4294967296) (hy : y < 4294967296) (h : highD 4 x = highD 4 y) : x = y := by
  have h1 := congrArg bytesN h
  rwa [high_bytes hx, high_bytes hy] at h1
theorem flat_inj (xs : List Int) : ∀ ys : List Int, xs.length = ys.length → (∀ n ∈ xs, 0 ≤ n ∧ n < 4294967296) → (∀ n ∈ ys, 0 ≤ n ∧ n < 4294967296) → (xs.flatMap fun n => highD 4 n.toNat) = (ys.flatMap fun n => highD 4 n.toNat) → xs = ys := by
  induction xs with
  | nil =>
    intro ys hl _ _ _
    exact (List.eq_nil_of_length_eq_zero hl.symm).symm
  | cons x xs ih =>
    intro ys hl hx hy h
    cases ys with
    | nil => cases hl
    | cons y ys =>
      rw [List.flatMap_cons, List.flatMap_cons] at h
      obtain ⟨h1, h2⟩ := List.append_inj h (by rw [highD_len, highD_len])
      have q1 := hx x (List.mem_cons_self ..)
      have q2 := hy y (List.mem_cons_self ..)
      have := high4_inj (by omega) (by omega) h1
      rw [ih ys (by simpa using hl) (fun n hn => hx n (List.mem_cons_of_mem _ hn)) (fun n hn => hy n (List.mem_cons_of_mem _ hn)) h2, show x = y by omega]
theorem body_inj {f g : FrameD} (hf : InBy f) (hg : InBy g) (h : bodyD f = bodyD g) : f = g := by
  obtain ⟨fk, ff, ft, fs, fn⟩ := f
  obtain ⟨gk, gf, gt, gs, gn⟩ := g
  unfold bodyD at h
  obtain ⟨h, h6⟩ := List.append_inj h (by simp [highD_len])
  obtain ⟨h, h5⟩ := List.append_inj h (by simp [highD_len])
  obtain ⟨h, h4⟩ := List.append_inj h (by simp [highD_len])
  obtain ⟨h, h3⟩ := List.append_inj h (by simp [highD_len])
  obtain ⟨h1, h2⟩ := List.append_inj h (by simp [highD_len])
  rw [high1, high1] at h1 h2 h3 h5
  injection h1 with h1 _
  injection h2 with h2 _
  injection h3 with h3 _
  injection h5 with h5 _
  have a1 := hf.kind
  have b1 := hg.kind
  have a2 := hf.frm
  have b2 := hg.frm
  have a3 := hf.to
  have b3 := hg.to
  have a4 := hf.seq
  have b4 := hg.seq
  simp only at a1 b1 a2 b2 a3 b3 a4 b4 h1 h2 h3 h4 h5 h6
  have e1 := byteN_small (by omega) (by omega) h1
  have e2 := byteN_small (by omega) (by omega) h2
  have e3 := byteN_small (by omega) (by omega) h3
  have e4 := high4_inj (by omega) (by omega) h4
  have e5 := byteN_small hf.few hg.few h5
  have e6 := flat_inj fn gn e5 hf.nums hg.nums h6
  rw [show fk = gk by omega, show ff = gf by omega, show ft = gt by omega, show fs = gs by omega, e6]
theorem lowD_len (c : Nat) : (lowD c).length = 4 := rfl
theorem textD_len (f : FrameD) : (textD f).length = 12 + 4 * f.nums.length := by
  unfold textD
  rw [List.length_append, bodyD_len, lowD_len]
  omega
theorem body_text (f : FrameD) : bodyS (textD f) = bodyD f ∧ lastS (textD f) = lowD (crcD (bodyD f)) := by
  unfold bodyS lastS
  rw [textD_len]
  have h := bodyD_len f
  rw [show 12 + 4 * f.nums.length - 4 = (bodyD f).length by omega]
  unfold textD
  exact ⟨List.take_left, List.drop_left⟩
theorem text_inj {f g : FrameD} (hf : frameE f = none) (hg : frameE g = none) (h : textD f = textD g) : f = g := by
  have h1 := (body_text f).1
  rw [h, (body_text g).1] at h1
  exact (body_inj (frameOk_of hg).inBy (frameOk_of hf).inBy h1).symm
theorem tk7_text (f : FrameD) (hn : f.nums.length < 256) : tkD (textD f) 7 1 = f.nums.length := by
  obtain ⟨p, hp⟩ : ∃ p, p = highD 1 f.kind.toNat ++ highD 1 f.frm.toNat ++ highD 1 f.to.toNat ++ highD 4 f.seq.toNat := ⟨_, rfl⟩
  have hpl : p.length = 7 := by rw [hp]; simp [highD_len]
  have ht : textD f = p ++ (byteN f.nums.length :: ((f.nums.flatMap fun n => highD 4 n.toNat) ++ lowD (crcD (bodyD f)))) := by
    unfold textD
    conv => lhs; arg 1; unfold bodyD
    rw [← hp, high1]
    simp
  unfold tkD
  rw [ht, ← hpl, List.drop_left]
  simp [bytesN, byteN_toNat]
  omega
/-- A frame is read as it was written. -/
theorem decode_of {f : FrameD} (h : frameE f = none) : decodeD (textD f) = (f, none) := by
  have hok := frameOk_of h
  have hlen := textD_len f
  have h7 := tk7_text f hok.inBy.few
  have hb := body_text f
  have hg : fieldsD (textD f) = f := body_inj (inBy_of _) hok.inBy (by rw [body_of _ (by rw [h7]; exact hlen), hb.1])
  unfold decodeD
  rw [if_neg (by omega), if_neg (by rw [h7, hlen]; exact fun q => q rfl), if_neg (by rw [hb.1, hb.2]; exact fun q => q rfl), hg, h]
end Go.Proofs.YtbppimahedbpoaaDoor
