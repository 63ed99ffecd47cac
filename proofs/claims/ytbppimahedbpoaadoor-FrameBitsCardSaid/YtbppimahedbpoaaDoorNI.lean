/-
  Package frame: the fields of a frame, by a contract.
-/
import Derived.Test.YtbppimahedbpoaaDoorNG
import Derived.Test.YtbppimahedbpoaaDoorNF
import Derived.Laws.NewBlocks
namespace Go.Proofs.YtbppimahedbpoaaDoor
open Go.RowKit Go.Extern.Stop Go.Stop Go.Extern

attribute [local go_sem] Nat.lt_add_one
/-- The fields of a text. -/
def numsD (l : Bs) (k : Nat) : List Int := (List.range k).map fun j => ((tkD l (8 + 4 * j) 4 : Nat) : Int)
theorem numsD_next (l : Bs) (k : Nat) : numsD l (k + 1) = numsD l k ++ [((tkD l (8 + 4 * k) 4 : Nat) : Int)] := by simp [numsD, List.range_succ]
theorem numsD_len (l : Bs) (k : Nat) : (numsD l k).length = k := by simp [numsD]
def fieldsD (l : Bs) : FrameD := ⟨((tkD l 0 1 : Nat) : Int), ((tkD l 1 1 : Nat) : Int), ((tkD l 2 1 : Nat) : Int), ((tkD l 3 4 : Nat) : Int), numsD l (tkD l 7 1)⟩
abbrev zFr : Obj := .cells #[.int .u8 0, .int .i64 0, .int .i64 0, .int .i64 0, .slice none 0 0] TFr
/-- While the fields are read. -/
structure FS (w0 w : World) (s : ByteArray) (sb ab at_ : Nat) (cs : Array Value) : Prop where
  st : w.heap[sb]? = some (.cells #[.string s] TStr (0, 0))
  at_ : w.heap[ab]? = some (.cells #[.int .i64 (at_ : Int)] TInt (0, 0))
  res : w.heap[w0.heap.size]? = some zFr
  fr : w.heap[w0.heap.size + 1]? = some (.cells cs TFr (0, 0))
  kp : KeepN w0 w fun k => k = ab ∨ w0.heap.size ≤ k
  lt : sb < w0.heap.size ∧ ab < w0.heap.size ∧ sb ≠ ab
theorem FS.take {w0 w : World} {s : ByteArray} {sb ab at_ : Nat} {cs : Array Value} (h : FS w0 w s sb ab at_ cs) (size : Nat) (hle : at_ + size ≤ s.size) (h4 : size ≤ 4) (hs : s.size ≤ 1000000) :
    Calls Tryd.prog 40 #[.int .i64 (size : Int), .pointer (some ⟨sb, 0, none⟩), .pointer (some ⟨ab, 0, none⟩)] w fun e w' => e = .returned (.int .i64 ((tkD s.data.toList at_ size : Nat) : Int)) ∧ FS w0 w' s sb ab (at_ + size) cs ∧ KeepN w w' (· = ab) := by
  refine (take_any s sb ab at_ size w h.st h.at_ hle h4 hs).mono ?_
  rintro e w' ⟨h1, h2, h3⟩
  have := h.lt
  exact ⟨h1, ⟨h3.keep _ _ h.st this.2.2, h2, h3.keep _ _ h.res (by omega), h3.keep _ _ h.fr (by omega), h.kp.trans (h3.mono fun k q => Or.inl q), h.lt⟩, h3⟩
theorem FS.below {w0 w w' : World} {s : ByteArray} {sb ab at_ : Nat} {cs : Array Value} (h : FS w0 w s sb ab at_ cs) (hb : Below w.heap.size w w') : FS w0 w' s sb ab at_ cs :=
  ⟨block_keep hb h.st, block_keep hb h.at_, block_keep hb h.res, block_keep hb h.fr, h.kp.trans (KeepN.of_below hb _), h.lt⟩
theorem FS.set {w0 w : World} {s : ByteArray} {sb ab at_ : Nat} {cs : Array Value} (h : FS w0 w s sb ab at_ cs) (i : Nat) (x : Value) : FS w0 (w.setCell ⟨w0.heap.size + 1, i, none⟩ x) s sb ab at_ (cs.setIfInBounds i x) := by
  have ho : ∀ k, k ≠ w0.heap.size + 1 → (w.setCell ⟨w0.heap.size + 1, i, none⟩ x).heap[k]? = w.heap[k]? := fun k hk => by simp [World.setCell, Array.getElem?_modify, Ne.symm hk]
  have := h.lt
  refine ⟨by rw [ho _ (by omega)]; exact h.st, by rw [ho _ (by omega)]; exact h.at_, by rw [ho _ (by omega)]; exact h.res, ?_, h.kp.trans (keepN_set _ _ _ _ _ (Or.inr (by omega))), h.lt⟩
  rw [set_block _ _ _ _ _ _ h.fr]
theorem FS.cell {w0 w : World} {s : ByteArray} {sb ab at_ : Nat} {cs : Array Value} (h : FS w0 w s sb ab at_ cs) (i : Nat) : w.cell? ⟨w0.heap.size + 1, i, none⟩ = cs[i]? := by rw [Lib.cell_of_heap h.fr]
theorem FS.frz {w0 w : World} {s : ByteArray} {sb ab at_ : Nat} {cs : Array Value} (h : FS w0 w s sb ab at_ cs) (i : Nat) : w.frozen? ⟨w0.heap.size + 1, i, none⟩ = false := Lib.frozen_of_heap h.fr i
/-- One number more. -/
theorem FS.add {w0 w : World} {s : ByteArray} {sb ab at_ : Nat} {c0 c1 c2 c3 nv : Value} {zs : List Int} (h : FS w0 w s sb ab at_ #[c0, c1, c2, c3, nv]) (hrow : w.ownsRow w0.heap.size TInt 1 nv zs.length (zs.map intV)) (hl : zs.length ≤ 1000000) (z : Int) :
    ∃ v' w4, (Builtin.append_ #[22, 22] 22 #[nv, .slice (some ⟨w.heap.size, 0, none⟩) 1 1]).run Tryd.prog (w.alloc (.cells #[.int .i64 z] TInt)) = .ok v' w4 ∧
      w4.cell? ⟨w0.heap.size + 1, 4, none⟩ = some nv ∧ w4.frozen? ⟨w0.heap.size + 1, 4, none⟩ = false ∧ FS w0 (w4.setCell ⟨w0.heap.size + 1, 4, none⟩ v') s sb ab at_ #[c0, c1, c2, c3, v'] ∧ (w4.setCell ⟨w0.heap.size + 1, 4, none⟩ v').ownsRow w0.heap.size TInt 1 v' (zs.length + 1) ((zs ++ [z]).map intV) := by
  obtain ⟨v', w4, h1, h2, h3, h4, -⟩ := append_at1 w w0.heap.size nv zs.length 1 8 22 TInt (.int .i64 0) (zs.map intV) [.int .i64 z] hrow h.kp.size Tryd.underlying22 Tryd.infoInt (by decide) rfl rfl (fun y hy => by
    rw [List.mem_singleton.1 hy]; rfl) hl 22 (by decide)
  have hlow : ∀ g, nv.ownBlock = some g → w0.heap.size ≤ g := fun g q => by
    rcases hrow.2 with ⟨hn, _⟩ | ⟨g', cap, cur, rfl, hb, _⟩
    · rw [hn] at q; cases q
    · injection q with q
      rw [← q]; exact hb
  have hlt := h.lt
  have hne : ∀ {g : Nat} {cs : Array Value} {T : TypeId}, w.heap[g]? = some (.cells cs T (0, 0)) → T ≠ TInt → nv.ownBlock ≠ some g := fun hg hT q => by
    obtain ⟨_, ds, hh⟩ := ownBlock_lt hrow q
    rw [hg] at hh
    injection hh with hh
    injection hh with _ hh _
    exact hT hh
  have k1 := h4 _ _ h.st (hne h.st (by decide))
  have k2 := h4 _ _ h.at_ (fun q => absurd (hlow _ q) (by omega))
  have k3 := h4 _ _ h.res (hne h.res (by decide))
  have k4 := h4 _ _ h.fr (hne h.fr (by decide))
  have hf : FS w0 w4 s sb ab at_ #[c0, c1, c2, c3, nv] := ⟨k1, k2, k3, k4, h.kp.trans ⟨fun k o q hn => h4 k o q fun e => hn (Or.inr (hlow k e)), h3.os, h3.tape, h3.output, h3.size⟩, hlt⟩
  refine ⟨v', w4, h1, by rw [hf.cell]; rfl, hf.frz 4, hf.set 4 v', ?_⟩
  have he : (zs ++ [z]).map intV = zs.map intV ++ [.int .i64 z] := by rw [List.map_append]; rfl
  rw [he]
  exact owns_kept h2 (kept_setCell (i := 4) k4 v') (by decide)
set_option maxRecDepth 100000 in
set_option maxHeartbeats 16000000 in
theorem fields_any (s : ByteArray) (sb ab : Nat) (w : World) (hsb : w.heap[sb]? = some (.cells #[.string s] TStr (0, 0))) (hab : w.heap[ab]? = some (.cells #[.int .i64 0] TInt (0, 0))) (hs : s.size = 12 + 4 * tkD s.data.toList 7 1) :
    Calls Tryd.prog 31 #[takeV sb ab] w fun e w' => ∃ nv, e = .returned (frameV (fieldsD s.data.toList) nv) ∧ w'.ownsRow w.heap.size TInt 1 nv (fieldsD s.data.toList).nums.length ((fieldsD s.data.toList).nums.map intV) ∧ KeepN w w' fun k => k = ab ∨ w.heap.size ≤ k := by
  obtain ⟨l, hl⟩ : ∃ l, l = s.data.toList := ⟨_, rfl⟩
  rw [← hl] at hs ⊢
  have hne : sb ≠ ab := fun e => by
    rw [e, hab] at hsb
    injection hsb with q
    injection q with _ q _
    exact absurd q (by decide)
  obtain ⟨c, hc⟩ : ∃ c, c = tkD l 7 1 := ⟨_, rfl⟩
  have hc256 : c < 256 := by rw [hc]; exact tkD_lt l 7 1
  have hk256 : tkD l 0 1 < 256 := tkD_lt l 0 1
  rw [← hc] at hs
  have hss : s.size ≤ 1000000 := by omega
  have H0 : Hid (∀ wx, wx = (w.alloc zFr).alloc zFr → FS w wx s sb ab 0 #[.int .u8 0, .int .i64 0, .int .i64 0, .int .i64 0, .slice none 0 0]) := fun wx hx => by
    have hb : Below w.heap.size w wx := by rw [hx]; exact (below1 w _).alloc (by simp) _
    refine ⟨block_keep hb hsb, block_keep hb hab, ?_, ?_, KeepN.of_below hb _, (Array.getElem?_eq_some_iff.1 hsb).1, (Array.getElem?_eq_some_iff.1 hab).1, hne⟩
    · rw [hx]; exact block_keep (below1 _ _) (heap_new w _)
    · rw [hx]
      have := heap_new (w.alloc zFr) zFr
      rw [World.size_alloc] at this
      exact this
  have KT : Hid (∀ (wx : World) (at_ size : Nat) (cs : Array Value), FS w wx s sb ab at_ cs → at_ + size ≤ s.size → size ≤ 4 → Calls Tryd.prog 40 #[.int .i64 (size : Int), .pointer (some ⟨sb, 0, none⟩), .pointer (some ⟨ab, 0, none⟩)] wx fun e w' => e = .returned (.int .i64 ((tkD l at_ size : Nat) : Int)) ∧ FS w w' s sb ab (at_ + size) cs) := fun wx at_ size cs h1 h2 h3 => by
    rw [hl]
    exact (h1.take size h2 h3 hss).mono fun e w' q => ⟨q.1, q.2.1⟩
  have HS : Hid (s.size = 12 + 4 * c ∧ c = tkD l 7 1 ∧ c < 256) := ⟨hs, hc, hc256⟩
  obtain ⟨k0, hk0⟩ : ∃ x, x = tkD l 0 1 := ⟨_, rfl⟩
  obtain ⟨k1, hk1⟩ : ∃ x, x = tkD l 1 1 := ⟨_, rfl⟩
  obtain ⟨k2, hk2⟩ : ∃ x, x = tkD l 2 1 := ⟨_, rfl⟩
  obtain ⟨k3, hk3⟩ : ∃ x, x = tkD l 3 4 := ⟨_, rfl⟩
  have HK : Hid (k0 = tkD l 0 1 ∧ k1 = tkD l 1 1 ∧ k2 = tkD l 2 1 ∧ k3 = tkD l 3 4) := ⟨hk0, hk1, hk2, hk3⟩
  have hk8 : k0 < 256 := by rw [hk0]; exact hk256
  have hcz : c < 256 := HS.out.2.2
  have HL : Hid (l = s.data.toList) := hl
  clear hl hsb hab hne hs hc hc256 hk256 hk0 hk1 hk2 hk3
  obtain ⟨N, hN⟩ : ∃ N, N = w.heap.size := ⟨_, rfl⟩
  have HNN : Hid (N = w.heap.size) := hN
  go_enter Tryd.func31, Tryd.ntmps31
  go_upto_region 2 with fail
  obtain ⟨W, hW⟩ : ∃ W, W = (w.alloc zFr).alloc zFr := ⟨_, rfl⟩
  have HW : Hid _ := H0.out W hW
  rw [← hW]
  clear hW H0
  rw [← hN]
  clear hN
  go_wp2_with fail
  refine (KT.out W 0 1 _ HW.out (by have := HS.out.1; omega) (by omega)).mono ?_
  rintro e w1 ⟨rfl, h1⟩
  rw [← HK.out.1]
  have H1 : Hid (FS w w1 s sb ab 1 #[.int .u8 0, .int .i64 0, .int .i64 0, .int .i64 0, .slice none 0 0]) := h1
  have c0 : w1.cell? ⟨N + 1, 0, none⟩ = some (.int .u8 0) := by rw [HNN.out, h1.cell]; rfl
  have f0 : w1.frozen? ⟨N + 1, 0, none⟩ = false := by rw [HNN.out]; exact h1.frz 0
  have H2 : Hid (FS w (w1.setCell ⟨N + 1, 0, none⟩ (.int .u8 (k0 : Int))) s sb ab 1 #[.int .u8 (k0 : Int), .int .i64 0, .int .i64 0, .int .i64 0, .slice none 0 0]) := by
    show FS _ _ _ _ _ _ _
    rw [HNN.out]; exact h1.set 0 _
  clear h1 HW
  go_upto_region 3 with fail
  obtain ⟨w2, hw2⟩ : ∃ z, z = w1.setCell ⟨N + 1, 0, none⟩ (.int .u8 (k0 : Int)) := ⟨_, rfl⟩
  rw [← hw2] at H2 ⊢
  clear hw2 c0 f0 H1
  go_wp2_with fail
  refine (KT.out w2 1 1 _ H2.out (by have := HS.out.1; omega) (by omega)).mono ?_
  rintro e w3 ⟨rfl, h3⟩
  rw [← HK.out.2.1]
  have c0 : w3.cell? ⟨N + 1, 1, none⟩ = some (.int .i64 0) := by rw [HNN.out, h3.cell]; rfl
  have f0 : w3.frozen? ⟨N + 1, 1, none⟩ = false := by rw [HNN.out]; exact h3.frz 1
  have H4 : Hid (FS w (w3.setCell ⟨N + 1, 1, none⟩ (.int .i64 (k1 : Int))) s sb ab 2 #[.int .u8 (k0 : Int), .int .i64 (k1 : Int), .int .i64 0, .int .i64 0, .slice none 0 0]) := by
    show FS _ _ _ _ _ _ _
    rw [HNN.out]; exact h3.set 1 _
  clear h3 H2
  go_upto_region 4 with fail
  obtain ⟨w4, hw4⟩ : ∃ z, z = w3.setCell ⟨N + 1, 1, none⟩ (.int .i64 (k1 : Int)) := ⟨_, rfl⟩
  rw [← hw4] at H4 ⊢
  clear hw4 c0 f0
  go_wp2_with fail
  refine (KT.out w4 2 1 _ H4.out (by have := HS.out.1; omega) (by omega)).mono ?_
  rintro e w5 ⟨rfl, h5⟩
  rw [← HK.out.2.2.1]
  have c0 : w5.cell? ⟨N + 1, 2, none⟩ = some (.int .i64 0) := by rw [HNN.out, h5.cell]; rfl
  have f0 : w5.frozen? ⟨N + 1, 2, none⟩ = false := by rw [HNN.out]; exact h5.frz 2
  have H6 : Hid (FS w (w5.setCell ⟨N + 1, 2, none⟩ (.int .i64 (k2 : Int))) s sb ab 3 #[.int .u8 (k0 : Int), .int .i64 (k1 : Int), .int .i64 (k2 : Int), .int .i64 0, .slice none 0 0]) := by
    show FS _ _ _ _ _ _ _
    rw [HNN.out]; exact h5.set 2 _
  clear h5 H4
  go_upto_region 5 with fail
  obtain ⟨w6, hw6⟩ : ∃ z, z = w5.setCell ⟨N + 1, 2, none⟩ (.int .i64 (k2 : Int)) := ⟨_, rfl⟩
  rw [← hw6] at H6 ⊢
  clear hw6 c0 f0
  go_wp2_with fail
  refine (KT.out w6 3 4 _ H6.out (by have := HS.out.1; omega) (by omega)).mono ?_
  rintro e w7 ⟨rfl, h7⟩
  rw [← HK.out.2.2.2]
  have c0 : w7.cell? ⟨N + 1, 3, none⟩ = some (.int .i64 0) := by rw [HNN.out, h7.cell]; rfl
  have f0 : w7.frozen? ⟨N + 1, 3, none⟩ = false := by rw [HNN.out]; exact h7.frz 3
  have H8 : Hid (FS w (w7.setCell ⟨N + 1, 3, none⟩ (.int .i64 (k3 : Int))) s sb ab 7 #[.int .u8 (k0 : Int), .int .i64 (k1 : Int), .int .i64 (k2 : Int), .int .i64 (k3 : Int), .slice none 0 0]) := by
    show FS _ _ _ _ _ _ _
    rw [HNN.out]; exact h7.set 3 _
  clear h7 H6
  go_upto_region 6 with fail
  obtain ⟨w8, hw8⟩ : ∃ z, z = w7.setCell ⟨N + 1, 3, none⟩ (.int .i64 (k3 : Int)) := ⟨_, rfl⟩
  rw [← hw8] at H8 ⊢
  clear hw8 c0 f0
  go_wp2_with fail
  refine (KT.out w8 7 1 _ H8.out (by have := HS.out.1; omega) (by omega)).mono ?_
  rintro e w9 ⟨rfl, h9⟩
  rw [← HS.out.2.1]
  have H9 : Hid (FS w w9 s sb ab 8 #[.int .u8 (k0 : Int), .int .i64 (k1 : Int), .int .i64 (k2 : Int), .int .i64 (k3 : Int), .slice none 0 0]) := h9
  clear h9 H8
  go_wp2_with fail
  go_loopw [19] (fun t wr => ∃ (j : Nat) (na : Option Addr) (nc : Nat), j ≤ c ∧ t = .int .i64 j ∧ FS w wr s sb ab (8 + 4 * j) #[.int .u8 (k0 : Int), .int .i64 (k1 : Int), .int .i64 (k2 : Int), .int .i64 (k3 : Int), .slice na j nc] ∧ wr.ownsRow w.heap.size TInt 1 (.slice na j nc) j ((numsD l j).map intV)) (fun t _ => (c - intOf t).toNat)
  case atStart => exact ⟨0, none, 0, Nat.zero_le _, rfl, H9.out, World.ownsRow_nil _ _ _ _⟩
  case round =>
    clear H9
    obtain ⟨j, na, nc, hj, rfl, hf, hrow⟩ := hrel
    by_cases hlt : j < c
    · have hji : (j : Int) < c := by omega
      have h12 := HS.out.1
      have c0 : wr.drew.cell? ⟨N + 1, 4, none⟩ = some (.slice na j nc) := by rw [HNN.out]; exact hf.cell 4
      obtain ⟨z, hz⟩ : ∃ z, z = tkD l (8 + 4 * j) 4 := ⟨_, rfl⟩
      have K2 : Hid (Calls Tryd.prog 40 #[.int .i64 4, .pointer (some ⟨sb, 0, none⟩), .pointer (some ⟨ab, 0, none⟩)] wr.drew fun e w' => e = .returned (.int .i64 (z : Int)) ∧ ∃ v' w4, (Builtin.append_ #[22, 22] 22 #[.slice na j nc, .slice (some ⟨w'.heap.size, 0, none⟩) 1 1]).run Tryd.prog (w'.alloc (.cells #[.int .i64 (z : Int)] TInt)) = .ok v' w4 ∧
          w'.cell? ⟨N + 1, 4, none⟩ = some (.slice na j nc) ∧ (∀ o, (w'.alloc o).cell? ⟨N + 1, 4, none⟩ = some (.slice na j nc)) ∧ w4.cell? ⟨N + 1, 4, none⟩ = some (.slice na j nc) ∧ w4.frozen? ⟨N + 1, 4, none⟩ = false ∧ (∃ a c, v' = .slice a (j + 1) c) ∧ FS w (w4.setCell ⟨N + 1, 4, none⟩ v') s sb ab (8 + 4 * (j + 1)) #[.int .u8 (k0 : Int), .int .i64 (k1 : Int), .int .i64 (k2 : Int), .int .i64 (k3 : Int), v'] ∧ (w4.setCell ⟨N + 1, 4, none⟩ v').ownsRow w.heap.size TInt 1 v' (j + 1) ((numsD l (j + 1)).map intV)) := by
        have hd := hf.below (Below.refl _ wr).drew
        have hrd := owns_below hrow (Below.refl _ wr).drew
        refine (Calls.mono (hd.take 4 (by omega) (by omega) hss) ?_)
        rintro e w' ⟨h1, h2, h3⟩
        have hrw : w'.ownsRow w.heap.size TInt 1 (.slice na j nc) j ((numsD l j).map intV) := by
          refine ⟨hrd.1, ?_⟩
          rcases hrd.2 with q | ⟨g, cap, cur, q1, q2, q3, q4⟩
          · exact Or.inl q
          · exact Or.inr ⟨g, cap, cur, q1, q2, h3.keep g _ q3 (fun e => by have := hd.lt.2.1; omega), q4⟩
        obtain ⟨v', w4, g1, g2, g3, g4, g5⟩ := h2.add (zs := numsD l j) (by rw [numsD_len]; exact hrw) (by rw [numsD_len]; have := HS.out.2.2; omega) (z : Int)
        rw [numsD_len] at g5
        rw [hz, ← numsD_next] at g5
        have hc4 : w'.cell? ⟨N + 1, 4, none⟩ = some (.slice na j nc) := by rw [HNN.out]; exact h2.cell 4
        refine ⟨by rw [h1, hz, HL.out], v', w4, g1, hc4, fun o => cell_keep (below1 _ _) hc4, by rw [HNN.out]; exact g2, by rw [HNN.out]; exact g3, owns_form g5, by rw [HNN.out]; exact g4, by rw [HNN.out]; exact g5⟩
      clear hf hrow h12 hz
      go_upto_region 8 with fail
      go_region_law first
        | (refine step_append_run rfl (.tmp 22) (.tmp 25) _ _ rfl _ _ rfl rfl _ _ hr ?_)
        | (refine step_calls rfl 40 #[.int .i64 4, .pointer (some ⟨sb, 0, none⟩), .pointer (some ⟨ab, 0, none⟩)] (by go_simp) _ K2.out ?_; rintro e wc ⟨rfl, v', w2, hr, q0, q1, d0, d1, ⟨xa, xc, rfl⟩, hS, hR⟩; refine ⟨_, rfl, ?_⟩)
      all_goals
        have HN2 : Hid (FS w (w2.setCell ⟨N + 1, 4, none⟩ (.slice xa (j + 1) xc)) s sb ab (8 + 4 * (j + 1)) #[.int .u8 (k0 : Int), .int .i64 (k1 : Int), .int .i64 (k2 : Int), .int .i64 (k3 : Int), .slice xa (j + 1) xc] ∧ (w2.setCell ⟨N + 1, 4, none⟩ (.slice xa (j + 1) xc)).ownsRow w.heap.size TInt 1 (.slice xa (j + 1) xc) (j + 1) ((numsD l (j + 1)).map intV)) := ⟨hS, hR⟩
        clear hS hR hr q0 q1 d0 d1
        go_wp2_with fail
        go_roundw
        case rel => exact ⟨j + 1, xa, xc, hlt, by go_num, HN2.out⟩
        case measure => simp [intOf]; omega
    · have hjc : j = c := by omega
      subst hjc
      have r0 : wr.cell? ⟨N, 0, none⟩ = some (.int .u8 0) := by rw [HNN.out, Lib.cell_of_heap hf.res]; rfl
      have r1 : wr.cell? ⟨N, 1, none⟩ = some (.int .i64 0) := by rw [HNN.out, Lib.cell_of_heap hf.res]; rfl
      have r2 : wr.cell? ⟨N, 2, none⟩ = some (.int .i64 0) := by rw [HNN.out, Lib.cell_of_heap hf.res]; rfl
      have r3 : wr.cell? ⟨N, 3, none⟩ = some (.int .i64 0) := by rw [HNN.out, Lib.cell_of_heap hf.res]; rfl
      have r4 : wr.cell? ⟨N, 4, none⟩ = some (.slice none 0 0) := by rw [HNN.out, Lib.cell_of_heap hf.res]; rfl
      have f0 : wr.frozen? ⟨N, 0, none⟩ = false := by rw [HNN.out]; exact Lib.frozen_of_heap hf.res 0
      have f1 : wr.frozen? ⟨N, 1, none⟩ = false := by rw [HNN.out]; exact Lib.frozen_of_heap hf.res 1
      have f2 : wr.frozen? ⟨N, 2, none⟩ = false := by rw [HNN.out]; exact Lib.frozen_of_heap hf.res 2
      have f3 : wr.frozen? ⟨N, 3, none⟩ = false := by rw [HNN.out]; exact Lib.frozen_of_heap hf.res 3
      have f4 : wr.frozen? ⟨N, 4, none⟩ = false := by rw [HNN.out]; exact Lib.frozen_of_heap hf.res 4
      have c0 : wr.cell? ⟨N + 1, 0, none⟩ = some (.int .u8 (k0 : Int)) := by rw [HNN.out]; exact hf.cell 0
      have c1 : wr.cell? ⟨N + 1, 1, none⟩ = some (.int .i64 (k1 : Int)) := by rw [HNN.out]; exact hf.cell 1
      have c2 : wr.cell? ⟨N + 1, 2, none⟩ = some (.int .i64 (k2 : Int)) := by rw [HNN.out]; exact hf.cell 2
      have c3 : wr.cell? ⟨N + 1, 3, none⟩ = some (.int .i64 (k3 : Int)) := by rw [HNN.out]; exact hf.cell 3
      have c4 : wr.cell? ⟨N + 1, 4, none⟩ = some (.slice na j nc) := by rw [HNN.out]; exact hf.cell 4
      obtain ⟨wz, hwz⟩ : ∃ z, z = ((((wr.setCell ⟨N, 0, none⟩ (.int .u8 (k0 : Int))).setCell ⟨N, 1, none⟩ (.int .i64 (k1 : Int))).setCell ⟨N, 2, none⟩ (.int .i64 (k2 : Int))).setCell ⟨N, 3, none⟩ (.int .i64 (k3 : Int))).setCell ⟨N, 4, none⟩ (.slice na j nc) := ⟨_, rfl⟩
      have hp : (fun k => k = ab ∨ w.heap.size ≤ k) N := Or.inr (by rw [HNN.out]; exact Nat.le_refl _)
      have hkz : KeepN w wz fun k => k = ab ∨ w.heap.size ≤ k := by
        rw [hwz]
        exact ((((hf.kp.trans (keepN_set _ _ _ _ _ hp)).trans (keepN_set _ _ _ _ _ hp)).trans (keepN_set _ _ _ _ _ hp)).trans (keepN_set _ _ _ _ _ hp)).trans (keepN_set _ _ _ _ _ hp)
      have hres := hf.res
      rw [← HNN.out] at hres
      have h9 : wz.heap[N]? = some (.cells #[.int .u8 (k0 : Int), .int .i64 (k1 : Int), .int .i64 (k2 : Int), .int .i64 (k3 : Int), .slice na j nc] TFr (0, 0)) := by
        rw [hwz]
        exact set_block _ _ _ _ _ _ (set_block _ _ _ _ _ _ (set_block _ _ _ _ _ _ (set_block _ _ _ _ _ _ (set_block _ _ _ _ _ _ hres _) _) _) _) _
      have hi9 : wz.ownsRow w.heap.size TInt 1 (.slice na j nc) j ((numsD l j).map intV) := by
        have hk : ∀ (v : World) (i : Nat) (x : Value) (cs : Array Value), v.heap[N]? = some (.cells cs TFr (0, 0)) → v.ownsRow w.heap.size TInt 1 (.slice na j nc) j ((numsD l j).map intV) → (v.setCell ⟨N, i, none⟩ x).ownsRow w.heap.size TInt 1 (.slice na j nc) j ((numsD l j).map intV) := fun v i x cs h1 h2 => owns_kept h2 (kept_setCell (i := i) h1 x) (by decide)
        have h1 := hk wr 0 (.int .u8 (k0 : Int)) _ hres hrow
        have b1 := set_block _ _ 0 _ _ _ hres (.int .u8 (k0 : Int))
        have h2 := hk _ 1 (.int .i64 (k1 : Int)) _ b1 h1
        have b2 := set_block _ _ 1 _ _ _ b1 (.int .i64 (k1 : Int))
        have h3 := hk _ 2 (.int .i64 (k2 : Int)) _ b2 h2
        have b3 := set_block _ _ 2 _ _ _ b2 (.int .i64 (k2 : Int))
        have h4 := hk _ 3 (.int .i64 (k3 : Int)) _ b3 h3
        have b4 := set_block _ _ 3 _ _ _ b3 (.int .i64 (k3 : Int))
        have h5 := hk _ 4 (.slice na j nc) _ b4 h4
        rw [hwz]
        exact h5
      have z0 : wz.cell? ⟨N, 0, none⟩ = some (.int .u8 (k0 : Int)) := by rw [Lib.cell_of_heap h9]; rfl
      have z1 : wz.cell? ⟨N, 1, none⟩ = some (.int .i64 (k1 : Int)) := by rw [Lib.cell_of_heap h9]; rfl
      have z2 : wz.cell? ⟨N, 2, none⟩ = some (.int .i64 (k2 : Int)) := by rw [Lib.cell_of_heap h9]; rfl
      have z3 : wz.cell? ⟨N, 3, none⟩ = some (.int .i64 (k3 : Int)) := by rw [Lib.cell_of_heap h9]; rfl
      have z4 : wz.cell? ⟨N, 4, none⟩ = some (.slice na j nc) := by rw [Lib.cell_of_heap h9]; rfl
      have HZ : Hid (wz = ((((wr.setCell ⟨N, 0, none⟩ (.int .u8 (k0 : Int))).setCell ⟨N, 1, none⟩ (.int .i64 (k1 : Int))).setCell ⟨N, 2, none⟩ (.int .i64 (k2 : Int))).setCell ⟨N, 3, none⟩ (.int .i64 (k3 : Int))).setCell ⟨N, 4, none⟩ (.slice na j nc) ∧ wz.ownsRow w.heap.size TInt 1 (.slice na j nc) j ((numsD l j).map intV) ∧ KeepN w wz fun k => k = ab ∨ w.heap.size ≤ k) := ⟨hwz, hi9, hkz⟩
      clear hf hrow hwz hp hkz hres h9 hi9
      go_wp2_with fail
      rw [← HZ.out.1]
      refine bodyPost_ret (v := .agg #[.int .u8 (k0 : Int), .int .i64 (k1 : Int), .int .i64 (k2 : Int), .int .i64 (k3 : Int), .slice na j nc]) (by simp [results, Tryd.results31, go_sem, z0, z1, z2, z3, z4]) rfl ?_
      refine ⟨.slice na j nc, ?_, ?_, HZ.out.2.2⟩
      · unfold frameV fieldsD
        rw [← HK.out.1, ← HK.out.2.1, ← HK.out.2.2.1, ← HK.out.2.2.2]
      · unfold fieldsD
        simp only [numsD_len]
        rw [← HS.out.2.1]
        exact HZ.out.2.1
end Go.Proofs.YtbppimahedbpoaaDoor
