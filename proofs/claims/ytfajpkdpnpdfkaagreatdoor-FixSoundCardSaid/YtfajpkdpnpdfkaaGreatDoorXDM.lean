/-
  Package set: holds, by a contract.
-/
import Derived.Test.YtfajpkdpnpdfkaaGreatDoorXSM
import Derived.Test.YtfajpkdpnpdfkaaGreatDoorXMM
import Derived.Test.YtfajpkdpnpdfkaaGreatDoorXCM
import Derived.Lib.QuietBelow
import Derived.Test.YtfajpkdpnpdfkaaGreatDoorXFM
namespace Go.Proofs.YtfajpkdpnpdfkaaGreatDoor
open Go.RowKit Go.Extern.Stop Go.Stop Go.Extern Go.Sort

/-- holds: is a number one of numbers that do not fall? -/
theorem holds_any (zs : List Int) (v : Value) (x : Int) (w : World) (hm : zs.length ≤ 1000000) (h : IsInts w v zs) (hs : zs.Pairwise (· ≤ ·)) :
    Calls Tryz.prog 93 #[v, .int .i64 x] w fun e w' => e = .returned (.bool (zs.contains x)) ∧ Below w.heap.size w w' := by
  rcases h with ⟨hz, a, c, rfl⟩ | ⟨hz, b, o, c, rfl, hc⟩
  · subst hz
    go_enter Tryz.func93, Tryz.ntmps93
    go_wp2_with fail
    refine (Tryz.slices_BinarySearch_int_empty _ _ _ _).mono ?_
    rintro e w1 ⟨rfl, rfl⟩
    go_wp2
    go_ret
    exact ⟨rfl, Below.refl _ _⟩
  · have HC : Hid (∀ j, j < zs.length → w.cell? ⟨b, o + j, none⟩ = some (.int .i64 (zs.getD j 0))) := hc
    have HS : Hid (zs.Pairwise (· ≤ ·)) := hs
    clear hc hs hz
    go_enter Tryz.func93, Tryz.ntmps93
    go_wp2_with fail
    refine (Tryz.slices_BinarySearch_int b o zs.length c zs x w (Nat.le_refl _) (by omega) HC.out (by rw [List.take_length]; exact HS.out)).mono ?_
    rintro e w1 ⟨rfl, q, rfl⟩
    rw [List.take_length]
    obtain ⟨B, hBe⟩ : ∃ B, B = zs.contains x := ⟨_, rfl⟩
    rw [← hBe]
    have HBe : Hid (B = zs.contains x) := hBe
    clear hBe
    generalize List.countP (fun y => decide (y < x)) zs = C
    go_wp2
    go_ret
    exact ⟨by rw [← HBe.out]; rfl, below_drewN (Below.refl _ _) _⟩

theorem owns_belowS {w w' : World} {B : Nat} {e : TypeId} {k : Nat} {v : Value} {n : Nat} {xs : List Value} (h : w.ownsRow B e k v n xs) (hb : Below w.heap.size w w') : w'.ownsRow B e k v n xs := by
  refine ⟨h.1, ?_⟩
  rcases h.2 with h2 | ⟨g, cap, cur, hv, hg, hh, r⟩
  · exact Or.inl h2
  · have hl : g < w.heap.size := (Array.getElem?_eq_some_iff.1 hh).1
    exact Or.inr ⟨g, cap, cur, hv, hg, by rw [hb.block g hl]; exact hh, r⟩
theorem take_succ_getD (zs : List Int) (k : Nat) (h : k < zs.length) : zs.take (k + 1) = zs.take k ++ [zs.getD k 0] := by
  rw [List.take_succ_eq_append_getElem h]
  simp [List.getD, h]
end Go.Proofs.YtfajpkdpnpdfkaaGreatDoor

/-
  Package set: Within and Has, by contracts.
-/
namespace Go.Proofs.YtfajpkdpnpdfkaaGreatDoor
open Go.RowKit Go.Extern.Stop Go.Stop Go.Extern Go.Sort

theorem has_any (zs : List Int) (v : Value) (x : Int) (w : World) (hm : zs.length ≤ 1000000) (h : IsInts w v zs) :
    Calls Tryz.prog 32 #[v, .int .i64 x] w fun e w' => e = .returned (.bool (zs.contains x)) ∧ w' = w := by
  have HK : Hid (Calls Tryz.prog 70 #[v, .int .i64 x] w fun e w' => e = .returned (.bool (zs.contains x)) ∧ w' = w) := by
    rcases h with ⟨hz, a, c, rfl⟩ | ⟨hz, b, o, c, rfl, hc⟩
    · subst hz
      exact Tryz.slices_Contains_int_empty a c x w
    · have := Tryz.slices_Contains_int b o zs.length c zs x w (Nat.le_refl _) (by omega) hc
      rw [List.take_length] at this
      exact this
  clear h
  obtain ⟨B, hB⟩ : ∃ B, B = zs.contains x := ⟨_, rfl⟩
  rw [← hB] at HK ⊢
  clear hB
  go_enter Tryz.func32, Tryz.ntmps32
  go_wp2_with fail
  refine HK.out.mono ?_
  rintro e w1 ⟨rfl, hw⟩
  obtain rfl := hw.symm
  go_wp2
  go_ret
  exact ⟨rfl, rfl⟩

set_option maxHeartbeats 1000000 in
theorem within1_any (ys : List Int) (vb : Value) (pb : Nat) (x : Int) (w : World) (hm : ys.length ≤ 1000000) (hb : w.cell? ⟨pb, 0, none⟩ = some vb) (hv : IsInts w vb ys) (hs : ys.Pairwise (· ≤ ·)) :
    Calls Tryz.prog 92 #[.int .i64 x, .pointer (some ⟨pb, 0, none⟩)] w fun e w' => e = .returned (.bool (!ys.contains x)) ∧ Below w.heap.size w w' := by
  have HV : Hid (IsInts w vb ys) := hv
  obtain ⟨va, vc, rfl⟩ := hv.form
  clear hv
  go_enter Tryz.func92, Tryz.ntmps92
  go_wp2_with fail
  refine (holds_any ys _ x _ hm HV.out hs).mono ?_
  rintro e w1 ⟨rfl, hB⟩
  obtain ⟨B, hBe⟩ : ∃ B, B = ys.contains x := ⟨_, rfl⟩
  rw [← hBe]
  have HBe : Hid (B = ys.contains x) := hBe
  clear hBe
  go_wp2
  go_ret
  exact ⟨by rw [← HBe.out]; rfl, hB⟩

theorem any_take_succ (p : Int → Bool) (zs : List Int) (k : Nat) (h : k < zs.length) (h1 : (zs.take k).any p = false) (h2 : p (zs.getD k 0) = false) : (zs.take (k + 1)).any p = false := by
  rw [take_succ_getD zs k h, List.any_append, h1]
  simpa using h2
theorem any_at (p : Int → Bool) (zs : List Int) (k : Nat) (h : k < zs.length) (h2 : p (zs.getD k 0) = true) : zs.any p = true :=
  List.any_eq_true.2 ⟨zs[k], List.getElem_mem h, by simpa [List.getD, h] using h2⟩

set_option maxHeartbeats 1000000 in
theorem indexFunc_any (p : Int → Bool) (zs : List Int) (v : Value) (pb : Nat) (w : World) (hm : zs.length ≤ 1000000) (h : IsInts w v zs)
    (hcl : ∀ wr x, Below w.heap.size w wr → Calls Tryz.prog 92 #[.int .i64 x, .pointer (some ⟨pb, 0, none⟩)] wr fun e w' => e = .returned (.bool (p x)) ∧ Below wr.heap.size wr w') :
    Calls Tryz.prog 137 #[v, .func (Fn.func 92) #[] #[.pointer (some ⟨pb, 0, none⟩)]] w fun e w' => ∃ r : Int, e = .returned (.int .i64 r) ∧ ((0 ≤ r ∧ zs.any p = true) ∨ (r = -1 ∧ zs.any p = false)) ∧ Below w.heap.size w w' := by
  have HCL : Hid (∀ wr x, Below w.heap.size w wr → Calls Tryz.prog 92 #[.int .i64 x, .pointer (some ⟨pb, 0, none⟩)] wr fun e w' => e = .returned (.bool (p x)) ∧ Below wr.heap.size wr w') := hcl
  clear hcl
  rcases h with ⟨hz, a, c, rfl⟩ | ⟨hz, b, o, c, rfl, hc⟩
  · subst hz
    go_enter Tryz.func137, Tryz.ntmps137
    go_wp2_with fail
    go_loopw [8] (fun t wr => t = .int .i64 0 ∧ wr = w) (fun _ _ => 0)
    case atStart => exact ⟨rfl, rfl⟩
    case round =>
      obtain ⟨rfl, rfl⟩ := hrel
      go_wp2_with fail
      go_ret
      exact ⟨-1, rfl, Or.inr ⟨rfl, rfl⟩, Below.refl _ _⟩
  · have HC : Hid (∀ j, j < zs.length → w.cell? ⟨b, o + j, none⟩ = some (.int .i64 (zs.getD j 0))) := hc
    clear hc hz
    generalize hn : zs.length = n at *
    have HN : Hid (zs.length = n) := hn
    clear hn
    go_enter Tryz.func137, Tryz.ntmps137
    go_wp2_with fail
    go_loopw [8] (fun t wr => ∃ k : Nat, k ≤ n ∧ t = .int .i64 k ∧ (zs.take k).any p = false ∧ Below w.heap.size w wr) (fun t _ => (n - intOf t).toNat)
    case atStart => exact ⟨0, Nat.zero_le _, rfl, rfl, Below.refl _ _⟩
    case round =>
      obtain ⟨k, hk, rfl, hall, hB⟩ := hrel
      have HA : Hid ((zs.take k).any p = false) := hall
      clear hall
      by_cases hlt : k < n
      · have e1 := cell_keep hB (HC.out k hlt)
        obtain ⟨z, hze⟩ : ∃ z, z = zs.getD k 0 := ⟨_, rfl⟩
        rw [← hze] at e1
        have HZ : Hid (z = zs.getD k 0) := hze
        clear hze
        go_wp2_with fail
        refine (HCL.out wr z hB).mono ?_
        rintro e w1 ⟨rfl, hB1⟩
        have hBw : Below w.heap.size w w1 := hB.trans (hB1.mono hB.size)
        clear hB1
        cases hpz : p z with
        | true =>
          have HP : Hid (zs.any p = true) := any_at p zs k (by rw [HN.out]; exact hlt) (by rw [← HZ.out]; exact hpz)
          clear hpz
          go_wp2_with fail
          go_ret
          exact ⟨k, rfl, Or.inl ⟨by omega, HP.out⟩, hBw⟩
        | false =>
          have HP : Hid ((zs.take (k + 1)).any p = false) := any_take_succ p zs k (by rw [HN.out]; exact hlt) HA.out (by rw [← HZ.out]; exact hpz)
          clear hpz
          go_wp2_with fail
          go_roundw
          case rel => exact ⟨k + 1, hlt, by go_num, HP.out, hBw⟩
          case measure => simp [intOf]; omega
      · go_wp2_with fail
        go_ret
        refine ⟨-1, rfl, Or.inr ⟨rfl, ?_⟩, hB⟩
        have hkn : k = zs.length := by rw [HN.out]; omega
        have := HA.out
        rw [hkn, List.take_length] at this
        exact this

theorem containsFunc_any (p : Int → Bool) (zs : List Int) (v : Value) (pb : Nat) (w : World) (hm : zs.length ≤ 1000000) (h : IsInts w v zs)
    (hcl : ∀ wr x, Below w.heap.size w wr → Calls Tryz.prog 92 #[.int .i64 x, .pointer (some ⟨pb, 0, none⟩)] wr fun e w' => e = .returned (.bool (p x)) ∧ Below wr.heap.size wr w') :
    Calls Tryz.prog 91 #[v, .func (Fn.func 92) #[] #[.pointer (some ⟨pb, 0, none⟩)]] w fun e w' => e = .returned (.bool (zs.any p)) ∧ Below w.heap.size w w' := by
  have HK := indexFunc_any p zs v pb w hm h hcl
  have HK' : Hid (Calls Tryz.prog 137 #[v, .func (Fn.func 92) #[] #[.pointer (some ⟨pb, 0, none⟩)]] w fun e w' => ∃ r : Int, e = .returned (.int .i64 r) ∧ ((0 ≤ r ∧ zs.any p = true) ∨ (r = -1 ∧ zs.any p = false)) ∧ Below w.heap.size w w') := HK
  clear HK hcl h hm
  obtain ⟨B, hBe⟩ : ∃ B, B = zs.any p := ⟨_, rfl⟩
  rw [← hBe] at HK' ⊢
  clear hBe
  go_enter Tryz.func91, Tryz.ntmps91
  go_wp2_with fail
  refine HK'.out.mono ?_
  rintro e w1 ⟨r, rfl, hr, hB⟩
  rcases hr with ⟨h1, rfl⟩ | ⟨rfl, rfl⟩
  · go_wp2
    go_ret
    exact ⟨rfl, hB⟩
  · go_wp2
    go_ret
    exact ⟨rfl, hB⟩

set_option maxHeartbeats 1000000 in
theorem within_any (xs ys : List Int) (u v : Value) (w : World) (hx : xs.length ≤ 100000) (hy : ys.length ≤ 100000) (h1 : IsInts w u xs) (h2 : IsInts w v ys) :
    Calls Tryz.prog 56 #[u, v] w fun e w' => e = .returned (.bool (xs.all fun x => ys.contains x)) ∧ Below w.heap.size w w' := by
  have H1 : Hid (IsInts w u xs) := h1
  have HS : Hid (Calls Tryz.prog 90 #[v] w fun e w' => Sorted w w' e ys) := sorted_any ys v w (by omega) h2
  have hall : (xs.all fun x => ys.contains x) = !(xs.any fun x => !(srt ys).contains x) := by
    rw [List.not_any_eq_all_not]
    refine congrFun (congrArg List.all rfl) _ |>.trans ?_
    apply List.all_congr rfl
    intro x
    rw [Bool.not_not, Bool.eq_iff_iff, List.contains_iff_mem, List.contains_iff_mem]
    exact ((srt_perm ys).mem_iff).symm
  rw [hall]
  clear hall h1 h2
  go_enter Tryz.func56, Tryz.ntmps56
  go_wp2_with fail
  refine HS.out.mono ?_
  rintro e w1 hs
  have hsorted : ∃ a n c, e = .returned (.slice a n c) ∧ IsInts w1 (.slice a n c) (srt ys) ∧ Below w.heap.size w w1 := by
    rcases hs with ⟨hz, b, c, rfl, hB⟩ | ⟨hz, g, cap, rfl, hg1, hg2, hcap, hH, hB⟩
    · refine ⟨b, 0, c, rfl, ?_, hB⟩
      rw [hz]
      have : srt [] = [] := List.eq_nil_of_length_eq_zero (by rw [srt_length]; rfl)
      rw [this]; exact IsInts.nil _ _ _
    · exact ⟨_, _, cap, rfl, isInts_of_holds (by rw [srt_length]) hH, hB⟩
  obtain ⟨a, n, c, rfl, hI, hB⟩ := hsorted
  have HI : Hid (IsInts w1 (.slice a n c) (srt ys)) := hI
  clear hs hI
  go_wp2_with fail
  have hB1 := fun o => (Below.refl w1.heap.size w1).alloc (Nat.le_refl _) o
  have hBw := fun o => hB.trans ((hB1 o).mono hB.size)
  refine (containsFunc_any (fun x => !(srt ys).contains x) xs u w1.heap.size _ (by omega) (H1.out.below (hBw _)) (fun wr x hb => within1_any (srt ys) _ w1.heap.size x wr (by rw [srt_length]; omega) (cell_keep hb (by simp)) ((HI.out.below (hB1 _)).below hb) (srt_sorted ys))).mono ?_
  rintro e w2 ⟨rfl, hB2⟩
  have hBw2 : Below w.heap.size w w2 := (hBw _).trans (hB2.mono (by have := hB.size; simp; omega))
  obtain ⟨B, hBe⟩ : ∃ B, B = (xs.any fun x => !(srt ys).contains x) := ⟨_, rfl⟩
  rw [← hBe]
  have HBe : Hid (B = (xs.any fun x => !(srt ys).contains x)) := hBe
  clear hBe hBw hB1 hB2
  go_wp2
  go_ret
  exact ⟨by rw [← HBe.out]; rfl, hBw2⟩
end Go.Proofs.YtfajpkdpnpdfkaaGreatDoor

/-
  Package cons: the functions that Closed hands on, slices.ContainsFunc at rules and at edges, by contracts.
-/
namespace Go.Proofs.YtfajpkdpnpdfkaaGreatDoor
open Go.RowKit Go.Extern.Stop Go.Stop Go.Extern

/-- A rule that asks for an object which its node lacks. -/
def lackR (hs : List (List Int)) (r : RuleD) : Bool := (r.kind == kBase) && !(setAt hs r.a).contains r.b
/-- An edge from a node that has what the other one lacks. -/
def lackE (hs : List (List Int)) (p : Pair) : Bool := !((setAt hs p.1).all fun x => (setAt hs p.2).contains x)
theorem sets_at {w : World} {va : Option Addr} {vn vc : Nat} {hs : List (List Int)} (h : IsSets w (.slice va vn vc) hs) (j : Nat) (hj : j < hs.length) : ∃ b o xa xn xc, va = some ⟨b, o, none⟩ ∧ w.cell? ⟨b, o + j, none⟩ = some (.slice xa xn xc) ∧ IsInts w (.slice xa xn xc) (hs.getD j []) := by
  obtain ⟨a, c, e, q⟩ := h
  injection e with e1 e2 e3
  obtain ⟨b, o, x, h1, h2, h3⟩ := q j hj
  obtain ⟨xa, xc, rfl⟩ := isInts_form h3
  exact ⟨b, o, xa, _, xc, by rw [e1, h1], h2, h3⟩

set_option maxRecDepth 100000 in
set_option maxHeartbeats 4000000 in
theorem closed1_any (r : RuleD) (av : Value) (hs : List (List Int)) (va : Option Addr) (vc pb : Nat) (w : World) (hb : w.cell? ⟨pb, 0, none⟩ = some (.slice va hs.length vc)) (hH : IsSets w (.slice va hs.length vc) hs) (hr : r.kind = kBase → 0 ≤ r.a ∧ r.a.toNat < hs.length) (hl : ∀ j, j < hs.length → (hs.getD j []).length ≤ 1000000) :
    Calls Tryz.prog 53 #[.agg #[.string (S r.kind), .int .i64 r.a, .int .i64 r.b, .int .i64 r.stmt, av], .pointer (some ⟨pb, 0, none⟩)] w fun e w' => e = .returned (.bool (lackR hs r)) ∧ Below w.heap.size w w' := by
  obtain ⟨R, hR⟩ : ∃ R, R = lackR hs r := ⟨_, rfl⟩
  rw [← hR]
  obtain ⟨D, hD⟩ : ∃ D, D = (r.kind == kBase) := ⟨_, rfl⟩
  obtain ⟨kd, hkd⟩ : ∃ kd, kd = S r.kind := ⟨_, rfl⟩
  have hd : (kd.toList == [98, 97, 115, 101]) = D := by rw [hkd, S_toList, hD]; rfl
  rw [← hkd]
  clear hkd
  obtain ⟨W, hW⟩ : ∃ W, W = w.alloc (ruleBox kd r.a r.b r.stmt av) := ⟨_, rfl⟩
  have hBW : Below w.heap.size w W := by rw [hW]; exact below1 w _
  have hX : W.heap[w.heap.size]? = some (ruleBox kd r.a r.b r.stmt av) := by rw [hW]; exact heap_new w _
  have c0 : W.cell? ⟨w.heap.size, 0, none⟩ = some (.string kd) := by rw [Lib.cell_of_heap hX]; rfl
  have c1 : W.cell? ⟨w.heap.size, 1, none⟩ = some (.int .i64 r.a) := by rw [Lib.cell_of_heap hX]; rfl
  have c2 : W.cell? ⟨w.heap.size, 2, none⟩ = some (.int .i64 r.b) := by rw [Lib.cell_of_heap hX]; rfl
  have C0 := cell_regrown c0
  have C1 := cell_regrown c1
  have C2 := cell_regrown c2
  have H0 := cell_regrown (cell_keep hBW hb)
  clear hX c0 c1 c2
  cases D with
  | false =>
    have HR : Hid (R = false) := by show R = _; rw [hR]; unfold lackR; rw [← hD]; rfl
    clear hR hD hr hl hH
    go_enter Tryz.func53, Tryz.ntmps53
    go_upto_region 1 with fail
    rw [← hW]
    clear hW
    refine wp_region_quiet_below (by kernel_rfl) (by kernel_rfl) ?_
    repeat (quiet_step (fail))
    refine wpQuiet_nil ?_
    intro _ hw'
    obtain ⟨⟨dq, osq⟩, hw''⟩ := hw'
    subst hw''
    have hBQ : Below w.heap.size w (Go.Sort.grow (redrawn W dq) osq) := hBW.trans ((below_regrown W dq osq).mono hBW.size)
    go_wp2_with fail
    go_ret
    exact ⟨by rw [HR.out]; rfl, hBQ⟩
  | true =>
    have hk : r.kind = kBase := by simpa using hD.symm
    obtain ⟨h0, h1⟩ := hr hk
    obtain ⟨k, hk2⟩ : ∃ k : Nat, r.a = (k : Int) := ⟨r.a.toNat, by omega⟩
    rw [hk2] at h0 h1 C1
    rw [Int.toNat_natCast] at h1
    obtain ⟨b, o, xa, xn, xc, rfl, e0, hx⟩ := sets_at hH k h1
    have E0 := cell_regrown (cell_keep hBW e0)
    obtain ⟨n, hn⟩ : ∃ n, n = hs.length := ⟨_, rfl⟩
    rw [← hn] at H0
    have hki : (k : Int) < n := by omega
    obtain ⟨G, hG⟩ : ∃ G, G = (hs.getD k []).contains r.b := ⟨_, rfl⟩
    obtain ⟨rb, hrb⟩ : ∃ rb, rb = r.b := ⟨_, rfl⟩
    have HR : Hid (R = !G) := by show R = _; rw [hR]; unfold lackR setAt; rw [← hD, hk2, Int.toNat_natCast, ← hG]; rfl
    have KI : ∀ d os, Calls Tryz.prog 32 #[.slice xa xn xc, .int .i64 rb] (Go.Sort.grow (redrawn W d) os) fun e w'' => e = .returned (.bool G) ∧ ∃ p : Regrown, w'' = Go.Sort.grow (redrawn W p.d) p.os := fun d os => by
      rw [hG, hrb]
      exact Calls.regrown_of ((has_any (hs.getD k []) _ r.b _ (hl k h1) ((hx.below hBW).below (below_regrown W d os))).mono fun e w' ⟨q1, q2⟩ => ⟨q1, by rw [q2]; exact Below.refl _ _⟩)
    rw [hk2] at hW ⊢
    rw [← hrb] at C2 hW ⊢
    clear hR hD hr hl hH hk hk2 h0 h1 e0 hx hn hG hrb
    go_enter Tryz.func53, Tryz.ntmps53
    go_upto_region 1 with fail
    rw [← hW]
    clear hW
    refine wp_region_quiet_below (by kernel_rfl) (by kernel_rfl) ?_
    repeat (quiet_step (first | exact KI _ _))
    refine wpQuiet_nil ?_
    intro _ hw'
    obtain ⟨⟨dq, osq⟩, hw''⟩ := hw'
    subst hw''
    have hBQ : Below w.heap.size w (Go.Sort.grow (redrawn W dq) osq) := hBW.trans ((below_regrown W dq osq).mono hBW.size)
    clear KI
    go_wp2_with fail
    go_ret
    exact ⟨by rw [HR.out]; rfl, hBQ⟩

set_option maxRecDepth 100000 in
set_option maxHeartbeats 4000000 in
theorem closed2_any (p : Pair) (hs : List (List Int)) (va : Option Addr) (vc pb : Nat) (w : World) (hb : w.cell? ⟨pb, 0, none⟩ = some (.slice va hs.length vc)) (hH : IsSets w (.slice va hs.length vc) hs) (h1 : 0 ≤ p.1 ∧ p.1.toNat < hs.length) (h2 : 0 ≤ p.2 ∧ p.2.toNat < hs.length) (hl : ∀ j, j < hs.length → (hs.getD j []).length ≤ 100000) :
    Calls Tryz.prog 55 #[.agg #[.int .i64 p.1, .int .i64 p.2], .pointer (some ⟨pb, 0, none⟩)] w fun e w' => e = .returned (.bool (lackE hs p)) ∧ Below w.heap.size w w' := by
  obtain ⟨R, hR⟩ : ∃ R, R = lackE hs p := ⟨_, rfl⟩
  rw [← hR]
  obtain ⟨k, hk⟩ : ∃ k : Nat, p.1 = (k : Int) := ⟨p.1.toNat, by omega⟩
  obtain ⟨m, hm⟩ : ∃ m : Nat, p.2 = (m : Int) := ⟨p.2.toNat, by omega⟩
  rw [hk, hm]
  rw [hk, Int.toNat_natCast] at h1
  rw [hm, Int.toNat_natCast] at h2
  obtain ⟨W, hW⟩ : ∃ W, W = w.alloc (.cells #[.int .i64 (k : Int), .int .i64 (m : Int)] TE) := ⟨_, rfl⟩
  have hBW : Below w.heap.size w W := by rw [hW]; exact below1 w _
  have hX : W.heap[w.heap.size]? = some (.cells #[.int .i64 (k : Int), .int .i64 (m : Int)] TE) := by rw [hW]; exact heap_new w _
  have c0 : W.cell? ⟨w.heap.size, 0, none⟩ = some (.int .i64 (k : Int)) := by rw [Lib.cell_of_heap hX]; rfl
  have c1 : W.cell? ⟨w.heap.size, 1, none⟩ = some (.int .i64 (m : Int)) := by rw [Lib.cell_of_heap hX]; rfl
  have C0 := cell_regrown c0
  have C1 := cell_regrown c1
  have H0 := cell_regrown (cell_keep hBW hb)
  obtain ⟨b, o, xa, xn, xc, rfl, e0, hx⟩ := sets_at hH k h1.2
  obtain ⟨b', o', ya, yn, yc, hbo, f0, hy⟩ := sets_at hH m h2.2
  cases hbo
  have E0 := cell_regrown (cell_keep hBW e0)
  have F0 := cell_regrown (cell_keep hBW f0)
  obtain ⟨n, hn⟩ : ∃ n, n = hs.length := ⟨_, rfl⟩
  rw [← hn] at H0
  have hki : (k : Int) < n := by omega
  have hmi : (m : Int) < n := by omega
  obtain ⟨G, hG⟩ : ∃ G, G = ((hs.getD k []).all fun x => (hs.getD m []).contains x) := ⟨_, rfl⟩
  have HR : Hid (R = !G) := by show R = _; rw [hR]; unfold lackE setAt; rw [hk, hm, Int.toNat_natCast, Int.toNat_natCast, ← hG]
  have KI : ∀ d os, Calls Tryz.prog 56 #[.slice xa xn xc, .slice ya yn yc] (Go.Sort.grow (redrawn W d) os) fun e w'' => e = .returned (.bool G) ∧ ∃ p : Regrown, w'' = Go.Sort.grow (redrawn W p.d) p.os := fun d os => by
    rw [hG]
    exact Calls.regrown_of (within_any (hs.getD k []) (hs.getD m []) _ _ _ (hl k h1.2) (hl m h2.2) ((hx.below hBW).below (below_regrown W d os)) ((hy.below hBW).below (below_regrown W d os)))
  clear hR hl hH hk hm h1 h2 e0 f0 hx hy hn hG c0 c1 hX hb
  go_enter Tryz.func55, Tryz.ntmps55
  go_upto_region 1 with fail
  rw [← hW]
  clear hW
  refine wp_region_quiet_below (by kernel_rfl) (by kernel_rfl) ?_
  repeat (quiet_step (first | exact KI _ _))
  refine wpQuiet_nil ?_
  intro _ hw'
  obtain ⟨⟨dq, osq⟩, hw''⟩ := hw'
  subst hw''
  have hBQ : Below w.heap.size w (Go.Sort.grow (redrawn W dq) osq) := hBW.trans ((below_regrown W dq osq).mono hBW.size)
  clear KI
  go_wp2_with fail
  go_ret
  exact ⟨by rw [HR.out]; rfl, hBQ⟩
end Go.Proofs.YtfajpkdpnpdfkaaGreatDoor

/-
  Package cons: slices.ContainsFunc at rules and at edges, Closed, by contracts.
-/
namespace Go.Proofs.YtfajpkdpnpdfkaaGreatDoor
open Go.RowKit Go.Extern.Stop Go.Stop Go.Extern

theorem any_takeX {α : Type} (d : α) (p : α → Bool) (zs : List α) (k : Nat) (h : k < zs.length) (h1 : (zs.take k).any p = false) (h2 : p (zs.getD k d) = false) : (zs.take (k + 1)).any p = false := by
  rw [take_snoc zs d k h, List.any_append, h1]
  simpa using h2
theorem any_atX {α : Type} (d : α) (p : α → Bool) (zs : List α) (k : Nat) (h : k < zs.length) (h2 : p (zs.getD k d) = true) : zs.any p = true :=
  List.any_eq_true.2 ⟨zs[k], List.getElem_mem h, by simpa [List.getD, h] using h2⟩
theorem getD_memX {α : Type} (d : α) (zs : List α) (k : Nat) (h : k < zs.length) : zs.getD k d ∈ zs := by simp [List.getD, h]

set_option maxRecDepth 100000 in
set_option maxHeartbeats 4000000 in
theorem indexR_of (p : RuleD → Bool) (zs : List RuleD) (v : Value) (pb : Nat) (w : World) (hm : zs.length ≤ 1000000) (h : IsRules w v zs)
    (hcl : ∀ wr r av, r ∈ zs → Below w.heap.size w wr → IsInts wr av r.args → Calls Tryz.prog 53 #[.agg #[.string (S r.kind), .int .i64 r.a, .int .i64 r.b, .int .i64 r.stmt, av], .pointer (some ⟨pb, 0, none⟩)] wr fun e w' => e = .returned (.bool (p r)) ∧ Below wr.heap.size wr w') :
    Calls Tryz.prog 88 #[v, .func (Fn.func 53) #[] #[.pointer (some ⟨pb, 0, none⟩)]] w fun e w' => ∃ r : Int, e = .returned (.int .i64 r) ∧ ((0 ≤ r ∧ zs.any p = true) ∨ (r = -1 ∧ zs.any p = false)) ∧ Below w.heap.size w w' := by
  have HCL : Hid (∀ wr r av, r ∈ zs → Below w.heap.size w wr → IsInts wr av r.args → Calls Tryz.prog 53 #[.agg #[.string (S r.kind), .int .i64 r.a, .int .i64 r.b, .int .i64 r.stmt, av], .pointer (some ⟨pb, 0, none⟩)] wr fun e w' => e = .returned (.bool (p r)) ∧ Below wr.heap.size wr w') := hcl
  obtain ⟨a, c, rfl, hq⟩ := h
  obtain ⟨n, hn⟩ : ∃ n, n = zs.length := ⟨_, rfl⟩
  rw [← hn] at hm hq ⊢
  have HN : Hid (n = zs.length) := hn
  have HQ : Hid _ := hq
  clear hcl hn hq
  go_enter Tryz.func88, Tryz.ntmps88
  go_wp2_with fail
  go_loopw [8] (fun t wr => ∃ k : Nat, k ≤ n ∧ t = .int .i64 k ∧ (zs.take k).any p = false ∧ Below w.heap.size w wr) (fun t _ => (n - intOf t).toNat)
  case atStart => exact ⟨0, Nat.zero_le _, rfl, rfl, Below.refl _ _⟩
  case round =>
    obtain ⟨k, hk, rfl, hall, hB⟩ := hrel
    have HA : Hid ((zs.take k).any p = false) := hall
    clear hall
    by_cases hlt : k < n
    · have hki : (k : Int) < n := by omega
      have hkz : k < zs.length := by rw [← HN.out]; exact hlt
      obtain ⟨b, rfl, hat⟩ := HQ.out k hlt
      obtain ⟨av, e0, e1, e2, e3, e4, e5, -⟩ := hat.below hB
      have KC : Hid _ := HCL.out wr (zs.getD k default) av (getD_memX _ _ _ hkz) hB e5
      obtain ⟨xa, xc, rfl⟩ := isInts_form e5
      generalize (zs.getD k default).args.length = xn at e4 KC
      clear hat e5
      obtain ⟨kd, hkd⟩ : ∃ z, z = S (zs.getD k default).kind := ⟨_, rfl⟩
      obtain ⟨x1, hx1⟩ : ∃ z, z = (zs.getD k default).a := ⟨_, rfl⟩
      obtain ⟨x2, hx2⟩ : ∃ z, z = (zs.getD k default).b := ⟨_, rfl⟩
      obtain ⟨x3, hx3⟩ : ∃ z, z = (zs.getD k default).stmt := ⟨_, rfl⟩
      rw [← hkd] at e0 KC
      rw [← hx1] at e1 KC
      rw [← hx2] at e2 KC
      rw [← hx3] at e3 KC
      clear hkd hx1 hx2 hx3
      obtain ⟨D, hD⟩ : ∃ D, D = p (zs.getD k default) := ⟨_, rfl⟩
      rw [← hD] at KC
      have HP : Hid (if D then zs.any p = true else (zs.take (k + 1)).any p = false) := by
        show if D then _ else _
        cases hDD : D with
        | true => exact any_atX default p zs k hkz (by rw [← hD, hDD])
        | false => exact any_takeX default p zs k hkz HA.out (by rw [← hD, hDD])
      clear hD hkz
      go_wp2_with fail
      refine Calls.mono KC.out ?_
      rintro e w1 ⟨rfl, hB1⟩
      have hBw : Below w.heap.size w w1 := hB.trans (hB1.mono hB.size)
      clear hB1 KC
      cases D with
      | true =>
        go_wp2_with fail
        go_ret
        exact ⟨k, rfl, Or.inl ⟨by omega, HP.out⟩, hBw⟩
      | false =>
        go_wp2_with fail
        go_roundw
        case rel => exact ⟨k + 1, hlt, by go_num, HP.out, hBw⟩
        case measure => simp [intOf]; omega
    · go_wp2_with fail
      go_ret
      refine ⟨-1, rfl, Or.inr ⟨rfl, ?_⟩, hB⟩
      have hkn : k = zs.length := by rw [← HN.out]; omega
      have := HA.out
      rw [hkn, List.take_length] at this
      exact this
theorem containsR_of (p : RuleD → Bool) (zs : List RuleD) (v : Value) (pb : Nat) (w : World) (hm : zs.length ≤ 1000000) (h : IsRules w v zs)
    (hcl : ∀ wr r av, r ∈ zs → Below w.heap.size w wr → IsInts wr av r.args → Calls Tryz.prog 53 #[.agg #[.string (S r.kind), .int .i64 r.a, .int .i64 r.b, .int .i64 r.stmt, av], .pointer (some ⟨pb, 0, none⟩)] wr fun e w' => e = .returned (.bool (p r)) ∧ Below wr.heap.size wr w') :
    Calls Tryz.prog 52 #[v, .func (Fn.func 53) #[] #[.pointer (some ⟨pb, 0, none⟩)]] w fun e w' => e = .returned (.bool (zs.any p)) ∧ Below w.heap.size w w' := by
  have HK : Hid (Calls Tryz.prog 88 #[v, .func (Fn.func 53) #[] #[.pointer (some ⟨pb, 0, none⟩)]] w fun e w' => ∃ r : Int, e = .returned (.int .i64 r) ∧ ((0 ≤ r ∧ zs.any p = true) ∨ (r = -1 ∧ zs.any p = false)) ∧ Below w.heap.size w w') := indexR_of p zs v pb w hm h hcl
  obtain ⟨a, c, rfl, -⟩ := h
  clear hcl hm
  obtain ⟨B, hBe⟩ : ∃ B, B = zs.any p := ⟨_, rfl⟩
  rw [← hBe] at HK ⊢
  clear hBe
  go_enter Tryz.func52, Tryz.ntmps52
  go_wp2_with fail
  refine Calls.mono HK.out ?_
  rintro e w1 ⟨r, rfl, hr, hB⟩
  rcases hr with ⟨h1, rfl⟩ | ⟨rfl, rfl⟩
  · go_wp2
    go_ret
    exact ⟨rfl, hB⟩
  · go_wp2
    go_ret
    exact ⟨rfl, hB⟩

set_option maxRecDepth 100000 in
set_option maxHeartbeats 4000000 in
theorem indexP_of (p : Pair → Bool) (zs : List Pair) (v : Value) (pb : Nat) (w : World) (hm : zs.length ≤ 1000000) (h : IsPairs w v zs)
    (hcl : ∀ wr r, r ∈ zs → Below w.heap.size w wr → Calls Tryz.prog 55 #[.agg #[.int .i64 r.1, .int .i64 r.2], .pointer (some ⟨pb, 0, none⟩)] wr fun e w' => e = .returned (.bool (p r)) ∧ Below wr.heap.size wr w') :
    Calls Tryz.prog 89 #[v, .func (Fn.func 55) #[] #[.pointer (some ⟨pb, 0, none⟩)]] w fun e w' => ∃ r : Int, e = .returned (.int .i64 r) ∧ ((0 ≤ r ∧ zs.any p = true) ∨ (r = -1 ∧ zs.any p = false)) ∧ Below w.heap.size w w' := by
  have HCL : Hid (∀ wr r, r ∈ zs → Below w.heap.size w wr → Calls Tryz.prog 55 #[.agg #[.int .i64 r.1, .int .i64 r.2], .pointer (some ⟨pb, 0, none⟩)] wr fun e w' => e = .returned (.bool (p r)) ∧ Below wr.heap.size wr w') := hcl
  obtain ⟨a, c, rfl, hq⟩ := h
  obtain ⟨n, hn⟩ : ∃ n, n = zs.length := ⟨_, rfl⟩
  rw [← hn] at hm hq ⊢
  have HN : Hid (n = zs.length) := hn
  have HQ : Hid _ := hq
  clear hcl hn hq
  go_enter Tryz.func89, Tryz.ntmps89
  go_wp2_with fail
  go_loopw [8] (fun t wr => ∃ k : Nat, k ≤ n ∧ t = .int .i64 k ∧ (zs.take k).any p = false ∧ Below w.heap.size w wr) (fun t _ => (n - intOf t).toNat)
  case atStart => exact ⟨0, Nat.zero_le _, rfl, rfl, Below.refl _ _⟩
  case round =>
    obtain ⟨k, hk, rfl, hall, hB⟩ := hrel
    have HA : Hid ((zs.take k).any p = false) := hall
    clear hall
    by_cases hlt : k < n
    · have hki : (k : Int) < n := by omega
      have hkz : k < zs.length := by rw [← HN.out]; exact hlt
      obtain ⟨b, rfl, e0, e1⟩ := HQ.out k hlt
      replace e0 := cell_keep hB e0
      replace e1 := cell_keep hB e1
      have KC : Hid _ := HCL.out wr (zs.getD k default) (getD_memX _ _ _ hkz) hB
      obtain ⟨x1, hx1⟩ : ∃ z, z = (zs.getD k default).1 := ⟨_, rfl⟩
      obtain ⟨x2, hx2⟩ : ∃ z, z = (zs.getD k default).2 := ⟨_, rfl⟩
      rw [← hx1] at e0 KC
      rw [← hx2] at e1 KC
      clear hx1 hx2
      obtain ⟨D, hD⟩ : ∃ D, D = p (zs.getD k default) := ⟨_, rfl⟩
      rw [← hD] at KC
      have HP : Hid (if D then zs.any p = true else (zs.take (k + 1)).any p = false) := by
        show if D then _ else _
        cases hDD : D with
        | true => exact any_atX default p zs k hkz (by rw [← hD, hDD])
        | false => exact any_takeX default p zs k hkz HA.out (by rw [← hD, hDD])
      clear hD hkz
      go_wp2_with fail
      refine Calls.mono KC.out ?_
      rintro e w1 ⟨rfl, hB1⟩
      have hBw : Below w.heap.size w w1 := hB.trans (hB1.mono hB.size)
      clear hB1 KC
      cases D with
      | true =>
        go_wp2_with fail
        go_ret
        exact ⟨k, rfl, Or.inl ⟨by omega, HP.out⟩, hBw⟩
      | false =>
        go_wp2_with fail
        go_roundw
        case rel => exact ⟨k + 1, hlt, by go_num, HP.out, hBw⟩
        case measure => simp [intOf]; omega
    · go_wp2_with fail
      go_ret
      refine ⟨-1, rfl, Or.inr ⟨rfl, ?_⟩, hB⟩
      have hkn : k = zs.length := by rw [← HN.out]; omega
      have := HA.out
      rw [hkn, List.take_length] at this
      exact this
theorem containsP_of (p : Pair → Bool) (zs : List Pair) (v : Value) (pb : Nat) (w : World) (hm : zs.length ≤ 1000000) (h : IsPairs w v zs)
    (hcl : ∀ wr r, r ∈ zs → Below w.heap.size w wr → Calls Tryz.prog 55 #[.agg #[.int .i64 r.1, .int .i64 r.2], .pointer (some ⟨pb, 0, none⟩)] wr fun e w' => e = .returned (.bool (p r)) ∧ Below wr.heap.size wr w') :
    Calls Tryz.prog 54 #[v, .func (Fn.func 55) #[] #[.pointer (some ⟨pb, 0, none⟩)]] w fun e w' => e = .returned (.bool (zs.any p)) ∧ Below w.heap.size w w' := by
  have HK : Hid (Calls Tryz.prog 89 #[v, .func (Fn.func 55) #[] #[.pointer (some ⟨pb, 0, none⟩)]] w fun e w' => ∃ r : Int, e = .returned (.int .i64 r) ∧ ((0 ≤ r ∧ zs.any p = true) ∨ (r = -1 ∧ zs.any p = false)) ∧ Below w.heap.size w w') := indexP_of p zs v pb w hm h hcl
  obtain ⟨a, c, rfl, -⟩ := h
  clear hcl hm
  obtain ⟨B, hBe⟩ : ∃ B, B = zs.any p := ⟨_, rfl⟩
  rw [← hBe] at HK ⊢
  clear hBe
  go_enter Tryz.func54, Tryz.ntmps54
  go_wp2_with fail
  refine Calls.mono HK.out ?_
  rintro e w1 ⟨r, rfl, hr, hB⟩
  rcases hr with ⟨h1, rfl⟩ | ⟨rfl, rfl⟩
  · go_wp2
    go_ret
    exact ⟨rfl, hB⟩
  · go_wp2
    go_ret
    exact ⟨rfl, hB⟩

end Go.Proofs.YtfajpkdpnpdfkaaGreatDoor

/-
  Package cons: Closed by a contract.
-/
namespace Go.Proofs.YtfajpkdpnpdfkaaGreatDoor
open Go.RowKit Go.Extern.Stop Go.Stop Go.Extern

theorem keep4C {w0 w : World} {p0 p1 p2 p3 : Addr} {v0 v1 v2 v3 : Value} (k0 : w0.cell? p0 = some v0) (k1 : w0.cell? p1 = some v1) (k2 : w0.cell? p2 = some v2) (k3 : w0.cell? p3 = some v3) (hb : Below w0.heap.size w0 w) : Below w0.heap.size w0 w ∧ w.cell? p0 = some v0 ∧ w.cell? p1 = some v1 ∧ w.cell? p2 = some v2 ∧ w.cell? p3 = some v3 :=
  ⟨hb, cell_keep hb k0, cell_keep hb k1, cell_keep hb k2, cell_keep hb k3⟩
/-- An edge to itself lacks nothing. -/
theorem lackE_self (hs : List (List Int)) (p : Pair) (h : p.1 = p.2) : lackE hs p = false := by
  unfold lackE
  rw [h, Bool.not_eq_false', List.all_eq_true]
  intro x hx
  simpa using hx
theorem lackE_any {es es' : List Pair} (hs : List (List Int)) (h : EdgeSet es es') : es'.any (lackE hs) = es.any (lackE hs) := by
  rw [Bool.eq_iff_iff, List.any_eq_true, List.any_eq_true]
  constructor
  · rintro ⟨p, hp, hl⟩
    exact ⟨p, ((h.mem p).1 hp).1, hl⟩
  · rintro ⟨p, hp, hl⟩
    refine ⟨p, (h.mem p).2 ⟨hp, fun e => ?_⟩, hl⟩
    rw [lackE_self hs p e] at hl
    cases hl
theorem closedB_lack (P : ProgD) (hs : List (List Int)) : closedB P hs = (!(rulesD P).any (lackR hs) && !(foundD P hs).any (lackE hs)) := rfl
/-- What Closed tells. -/
def ClosedPost (a : Nat → Addr) (P : ProgD) (hs : List (List Int)) (w w' : World) (e : Ending) : Prop :=
  ∃ b ev, e = .returned (.tuple #[.bool b, ev]) ∧ ((consE P hs = none ∧ ev = .nilIface ∧ b = closedB P hs) ∨ ((consE P hs).isNone = false ∧ b = false ∧ ErrV w' a (consE P hs) ev)) ∧ Below w.heap.size w w'
set_option maxRecDepth 100000 in
set_option maxHeartbeats 8000000 in
theorem closed_any (a : Nat → Addr) (P : ProgD) (v1 v2 v3 hv : Value) (hs : List (List Int)) (w : World) (hS : SmallP P) (h : IsProg w v1 v2 v3 P) (hH : IsSets w hv hs) (hE : Errs5 w a) (h3 : Three w a) (hn : hs.length ≤ 1000000) (hl : ∀ j, j < hs.length → (hs.getD j []).length ≤ 1000000) :
    Calls Tryz.prog 19 #[.agg #[v1, v2, v3], hv] w fun e w' => ClosedPost a P hs w w' e := by
  have H : Hid (IsProg w v1 v2 v3 P ∧ Errs5 w a ∧ SmallP P ∧ IsSets w hv hs) := ⟨h, hE, hS, hH⟩
  obtain ⟨⟨a1, c1, rfl, -, -⟩, ⟨a2, c2, rfl, -, -⟩, ⟨a3, c3, rfl, -, -⟩⟩ := h
  obtain ⟨ha, hc, rfl, -⟩ := hH
  obtain ⟨n1, hn1⟩ : ∃ m, m = P.vars.length := ⟨_, rfl⟩
  obtain ⟨n2, hn2⟩ : ∃ m, m = P.funs.length := ⟨_, rfl⟩
  obtain ⟨n3, hn3⟩ : ∃ m, m = P.stmts.length := ⟨_, rfl⟩
  obtain ⟨n, hnn⟩ : ∃ m, m = hs.length := ⟨_, rfl⟩
  rw [← hn1, ← hn2, ← hn3] at H ⊢
  rw [← hnn] at H ⊢
  have HN : Hid (n = hs.length) := hnn
  obtain ⟨W, hW⟩ : ∃ W, W = (w.alloc (.cells #[.slice a1 n1 c1, .slice a2 n2 c2, .slice a3 n3 c3] 26)).alloc (.cells #[.slice ha n hc] 27) := ⟨_, rfl⟩
  have hBW : Below w.heap.size w W := by rw [hW]; exact (below1 w _).alloc (by simp) _
  have HX : Hid (Box3 W w.heap.size (.slice a1 n1 c1) (.slice a2 n2 c2) (.slice a3 n3 c3) ∧ W.cell? ⟨w.heap.size + 1, 0, none⟩ = some (.slice ha n hc)) := by
    refine ⟨?_, ?_⟩
    · rw [hW]; exact (box3_new w _ _ _ _).below (below1 _ _)
    · rw [hW]
      have := heap_new (w.alloc (.cells #[.slice a1 n1 c1, .slice a2 n2 c2, .slice a3 n3 c3] 26)) (.cells #[.slice ha n hc] 27)
      rw [Lib.cell_of_heap (by simpa using this)]
      rfl
  have KC : Hid (Calls Tryz.prog 50 #[.agg #[.slice a1 n1 c1, .slice a2 n2 c2, .slice a3 n3 c3], .slice ha n hc] W fun e w' => ∃ v', e = .returned v' ∧ ErrV w' a (consE P hs) v' ∧ Below W.heap.size W w') := checkC_any a P _ _ _ _ hs W hS (H.out.1.below hBW) (H.out.2.2.2.below hBW) (hE.below hBW) (h3.below hBW) hn hl
  obtain ⟨p0, p1, p2⟩ := HX.out.1
  have p3 := HX.out.2
  clear hn1 hn2 hn3 hE hS hnn hn hl h3
  go_enter Tryz.func19, Tryz.ntmps19
  go_upto_region 1 with fail
  rw [← hW]
  clear hW
  go_wp2_with fail
  refine KC.out.mono ?_
  rintro e w1 ⟨v', rfl, hv, hB1⟩
  clear KC
  have hB1w : Below w.heap.size w w1 := hBW.trans (hB1.mono hBW.size)
  replace p0 := cell_keep hB1 p0
  replace p1 := cell_keep hB1 p1
  replace p2 := cell_keep hB1 p2
  replace p3 := cell_keep hB1 p3
  rcases hv.cases with ⟨h1, rfl⟩ | ⟨h1, t, x, rfl⟩
  · have hce : consE P hs = none := Option.isNone_iff_eq_none.1 h1
    have HCE : Hid (consE P hs = none) := hce
    obtain ⟨hck, hok⟩ := consE_ok hce
    have KR : Hid (Calls Tryz.prog 45 #[.agg #[.slice a1 n1 c1, .slice a2 n2 c2, .slice a3 n3 c3]] w1 fun e w' => ∃ ra rn rc, e = .returned (.slice ra rn rc) ∧ IsRules w' (.slice ra rn rc) (rulesD P) ∧ Below w1.heap.size w1 w') := by
      refine (rules_any a P _ _ _ w1 H.out.2.2.1 hck (H.out.1.below hB1w) (H.out.2.1.below hB1w)).mono ?_
      rintro e w' ⟨v, rfl, hr, hb'⟩
      have hr' := hr
      obtain ⟨ra, rc, rfl, -⟩ := hr
      exact ⟨ra, _, rc, rfl, hr', hb'⟩
    have HOK : Hid (checkE P = none ∧ SetsOk P hs ∧ P.vars.length ≤ hs.length) := ⟨hck, hok, by rw [hok.len]; unfold places; omega⟩
    obtain ⟨LR, hLR⟩ : ∃ b, b = (rulesD P).any (lackR hs) := ⟨_, rfl⟩
    obtain ⟨LE, hLE⟩ : ∃ b, b = (foundD P hs).any (lackE hs) := ⟨_, rfl⟩
    have HCB : Hid (closedB P hs = (!LR && !LE)) := by show _ = _; rw [closedB_lack, hLR, hLE]
    have K5 : Hid (∀ wx rv, Below w1.heap.size w1 wx → wx.cell? ⟨w.heap.size + 1, 0, none⟩ = some (.slice ha n hc) → IsRules wx rv (rulesD P) → Calls Tryz.prog 52 #[rv, .func (Fn.func 53) #[] #[.pointer (some ⟨w.heap.size + 1, 0, none⟩)]] wx fun e w' => e = .returned (.bool LR) ∧ Below wx.heap.size wx w') := fun wx rv hb hp hr => by
      have hbw := hB1w.trans (hb.mono hB1w.size)
      rw [hLR]
      refine containsR_of (lackR hs) (rulesD P) rv _ wx (by rw [rulesD_len]; have := (right_small HOK.out.1).1; omega) hr (fun wr r av hm hb2 hi => ?_)
      have hsx := (H.out.2.2.2.below hbw).below hb2
      have hp2 := cell_keep hb2 hp
      rw [HN.out] at hsx hp2
      refine closed1_any r av hs ha hc _ wr hp2 hsx (fun hk => ?_) (fun j hj => by have := HOK.out.2.1.short HOK.out.1 j hj; omega)
      have := (rule_names HOK.out.1 r hm).1
      have := HOK.out.2.2
      omega
    have K6a : Hid (∀ wx rv, Below w1.heap.size w1 wx → IsRules wx rv (rulesD P) → Calls Tryz.prog 51 #[.agg #[.slice a1 n1 c1, .slice a2 n2 c2, .slice a3 n3 c3], rv, .slice ha n hc] wx fun e w' => ∃ ea en ec es, e = .returned (.slice ea en ec) ∧ IsPairs w' (.slice ea en ec) es ∧ EdgeSet (foundD P hs) es ∧ Below w1.heap.size w1 w' ∧ Below wx.heap.size wx w') := fun wx rv hb hr => by
      have hbw := hB1w.trans (hb.mono hB1w.size)
      refine (edges_in P _ _ _ rv _ hs wx H.out.2.2.1 HOK.out.1 (H.out.1.below hbw).funs hr (H.out.2.2.2.below hbw) HOK.out.2.1).mono ?_
      rintro e w' ⟨v, es, rfl, q1, q2, q3⟩
      have q1' := q1
      obtain ⟨ea, ec, rfl, -⟩ := q1
      exact ⟨ea, _, ec, es, rfl, q1', q2, hb.trans (q3.mono hb.size), q3⟩
    have K6b : Hid (∀ wx ev es, Below w1.heap.size w1 wx → wx.cell? ⟨w.heap.size + 1, 0, none⟩ = some (.slice ha n hc) → IsPairs wx ev es → EdgeSet (foundD P hs) es → Calls Tryz.prog 54 #[ev, .func (Fn.func 55) #[] #[.pointer (some ⟨w.heap.size + 1, 0, none⟩)]] wx fun e w' => e = .returned (.bool LE) ∧ Below w1.heap.size w1 w') := fun wx ev es hb hp hr hes => by
      have hbw := hB1w.trans (hb.mono hB1w.size)
      rw [hLE, ← lackE_any hs hes]
      have hel : es.length ≤ 1000000 := by
        have h1 := up_length hes.up (fun p hp => ((hes.mem p).1 hp).1)
        have h2 := foundD_len HOK.out.2.1 HOK.out.1
        omega
      refine (containsP_of (lackE hs) es ev _ wx hel hr (fun wr r hm hb2 => ?_)).mono fun e w' ⟨r1, r2⟩ => ⟨r1, hb.trans (r2.mono hb.size)⟩
      have hsx := (H.out.2.2.2.below hbw).below hb2
      have hp2 := cell_keep hb2 hp
      rw [HN.out] at hsx hp2
      have hnd := found_nodes HOK.out.1 HOK.out.2.1 r ((hes.mem r).1 hm).1
      exact closed2_any r hs ha hc _ wr hp2 hsx (by omega) (by omega) (fun j hj => by have := HOK.out.2.1.short HOK.out.1 j hj; omega)
    clear hv hck h1 hce hok hLR hLE hB1 hBW
    go_upto_region 4 with fail
    go_wp2_with fail
    refine KR.out.mono ?_
    rintro e w2 ⟨ra, rn, rc, rfl, hr2, hB2⟩
    have HR2 : Hid (IsRules w2 (.slice ra rn rc) (rulesD P)) := hr2
    have HB2 : Hid (Below w1.heap.size w1 w2) := hB2
    replace p0 := cell_keep hB2 p0
    replace p1 := cell_keep hB2 p1
    replace p2 := cell_keep hB2 p2
    replace p3 := cell_keep hB2 p3
    clear KR hr2
    go_upto_region 5 with fail
    go_wp2_with fail
    refine (K5.out w2 _ HB2.out p3 HR2.out).mono ?_
    rintro e w3 ⟨rfl, hB3⟩
    have HB3 : Hid (Below w1.heap.size w1 w3 ∧ IsRules w3 (.slice ra rn rc) (rulesD P)) := ⟨HB2.out.trans (hB3.mono HB2.out.size), HR2.out.below hB3⟩
    replace p0 := cell_keep hB3 p0
    replace p1 := cell_keep hB3 p1
    replace p2 := cell_keep hB3 p2
    replace p3 := cell_keep hB3 p3
    have K6c : Hid (∀ wx, Below w3.heap.size w3 wx → Below w1.heap.size w1 wx ∧ IsRules wx (.slice ra rn rc) (rulesD P)) := fun wx hb => ⟨HB3.out.1.trans (hb.mono HB3.out.1.size), HB3.out.2.below hb⟩
    clear hB2 hB3 HB2 HR2 K5
    go_upto_region 6 with fail
    go_wp2_with fail
    refine (K6a.out _ _ (K6c.out w3 (Below.refl _ _)).1 (K6c.out w3 (Below.refl _ _)).2).mono ?_
    rintro e w5 ⟨ea, en, ec, es, rfl, hp5, he5, hb5, hb5x⟩
    replace p3 := cell_keep hb5x p3
    have H5 : Hid (IsPairs w5 (.slice ea en ec) es ∧ EdgeSet (foundD P hs) es ∧ Below w1.heap.size w1 w5) := ⟨hp5, he5, hb5⟩
    clear hp5 he5 hb5 hb5x p0 p1 p2 K6a K6c
    go_wp2_with fail
    refine (K6b.out w5 _ es H5.out.2.2 p3 H5.out.1 H5.out.2.1).mono ?_
    rintro e w6 ⟨rfl, hb6⟩
    have HB6 : Hid (Below w.heap.size w w6) := hB1w.trans (hb6.mono hB1w.size)
    clear K6b H5 hb6 p3
    cases LR <;> cases LE
    all_goals
      go_wp2_with fail
      go_ret2
      exact ⟨_, _, rfl, Or.inl ⟨HCE.out, rfl, by rw [HCB.out]; rfl⟩, HB6.out⟩
  · have HV : Hid ((consE P hs).isNone = false ∧ ErrV w1 a (consE P hs) (.iface t (.pointer (some x)))) := ⟨h1, hv⟩
    clear hv h1
    go_wp2_with fail
    go_ret2
    exact ⟨_, _, rfl, Or.inr ⟨HV.out.1, rfl, HV.out.2⟩, hB1w⟩
end Go.Proofs.YtfajpkdpnpdfkaaGreatDoor
