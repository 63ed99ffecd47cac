/-
  slices.Clone of functions and of statements.
-/
import Derived.Test.YtglonlpfnllocaaGreatDoorPZ8M
import Derived.Test.YtglonlpfnllocaaGreatDoorShelf
import Derived.Test.YtglonlpfnllocaaGreatDoorV5M
import Derived.Deep.RegionHeld3
import Derived.Laws.NewBlocks
namespace Go.Proofs.YtglonlpfnllocaaGreatDoor
open Go.RowKit Go.Extern.Stop Go.Stop Go.Extern

theorem clone_run (w : World) (t e : TypeId) (z : Value) (k by_ : Nat) (ht : Tryz.prog.underlying t = some (.slice e)) (hi : (Tryz.prog.info? e).map (fun i => (i.zero, i.size, i.bytes)) = some (some z, k, by_)) (hby : by_ ≤ 1000) (hzc : z.cells.size = k) (hk : 0 < k)
    (ad : Addr) (m c : Nat) (news : List Value) (hl : news.length = m * k) (hc : ∀ j u, news[j]? = some u → w.cell? (ad.add j) = some u) (hone : ∀ u ∈ news, u.oneCell' = true) (hm : m ≤ 1000000) (ty : TypeId) :
    ∃ v' w', (Builtin.append_ #[t, t] ty #[.slice (some ⟨w.heap.size, 0, none⟩) 0 0, .slice (some ad) m c]).run Tryz.prog (w.alloc (.cells #[] e)) = .ok v' w' ∧ w'.ownsRow w.heap.size e k v' m news ∧ Below w.heap.size w w' := by
  obtain ⟨i0, hi', hz0, hz1, hz2⟩ := info_parts hi
  have hmul : (0 + m) * by_ ≤ 1000000 * 1000 := Nat.mul_le_mul (by omega) hby
  have hown : (w.alloc (.cells #[] e)).ownsRow w.heap.size e k (.slice (some ⟨w.heap.size, 0, none⟩) 0 0) 0 [] := by
    have := World.ownsRow_lit (base := w.heap.size) (e := e) (size := k) w #[] 0 (Nat.le_refl _) (Nat.zero_le _) (by simp)
    simpa using this
  have hb1 := below1 w (.cells #[] e)
  obtain ⟨v', w', h1, h2, h3, _⟩ := run_append_own (P := Tryz.prog) (w.alloc (.cells #[] e)) w.heap.size t ty e i0 z k by_ ht hi' hz0 hz1 hz2 hzc hk (.slice (some ⟨w.heap.size, 0, none⟩) 0 0) 0 [] hown ad m c news hl (fun j u hj => cell_keep hb1 (hc j u hj)) hone (by unfold maxLen; omega) (by omega) hb1.size
  exact ⟨v', w', h1, by simpa using h2, hb1.trans (below_of_grown h3 hb1.size hown (Nat.le_refl _))⟩

theorem cloneF_news {w : World} {b o : Nat} {fs : List FunD} (h : ∀ j, j < fs.length → FunAt w b (o + j * 3) (fs.getD j default)) :
    ∃ ps : List Value, ps.length = fs.length ∧ (List.zipWith funCells fs ps).flatten.length = fs.length * 3 ∧ (∀ j, j < (List.zipWith funCells fs ps).flatten.length → w.cell? ⟨b, o + j, none⟩ = (List.zipWith funCells fs ps).flatten[j]?) ∧ (∀ u ∈ (List.zipWith funCells fs ps).flatten, u.oneCell' = true) ∧ ∀ j, j < fs.length → IsCap w (ps.getD j default) (fs.getD j default).params := by
  obtain ⟨ps, hps⟩ : ∃ ps : List Value, ps = (List.range fs.length).map fun j => (w.cell? ⟨b, o + j * 3 + 1, none⟩).getD default := ⟨_, rfl⟩
  have hl : ps.length = fs.length := by rw [hps]; simp
  have hat : ∀ j, j < fs.length → ps.getD j default = (w.cell? ⟨b, o + j * 3 + 1, none⟩).getD default := fun j hj => by rw [hps]; simp [List.getD, hj]
  have hlen : ∀ l ∈ List.zipWith funCells fs ps, l.length = 3 := fun l hl => by
    obtain ⟨i, hi, rfl⟩ := List.mem_iff_getElem.1 hl
    simp [funCells]
  have hfl : (List.zipWith funCells fs ps).flatten.length = fs.length * 3 := by
    have key : ∀ L : List (List Value), (∀ l ∈ L, l.length = 3) → L.flatten.length = L.length * 3 := fun L => by
      induction L with
      | nil => exact fun _ => rfl
      | cons a L ih =>
        intro h
        rw [List.flatten_cons, List.length_append, ih (fun l hl => h l (List.mem_cons_of_mem _ hl)), h a (List.mem_cons_self ..), List.length_cons]
        omega
    rw [key _ hlen, List.length_zipWith, hl, Nat.min_self]
  have hcap : ∀ j, j < fs.length → IsCap w (ps.getD j default) (fs.getD j default).params := fun j hj => by
    obtain ⟨pv, hc0, hpv, hic, hc2⟩ := h j hj
    rw [hat j hj, hpv]
    exact hic
  refine ⟨ps, hl, hfl, fun j hj => ?_, fun u hu => ?_, hcap⟩
  · rw [hfl] at hj
    obtain ⟨q, r, hr, rfl⟩ : ∃ q r, r < 3 ∧ j = q * 3 + r := ⟨j / 3, j % 3, Nat.mod_lt _ (by decide), by omega⟩
    have hq : q < fs.length := by omega
    rw [flatten_at _ 3 hlen q r _ (zip_at funCells fs ps hl q hq) hr]
    obtain ⟨pv, hc0, hpv, hic, hc2⟩ := h q hq
    have hp := hat q hq
    rw [hpv] at hp
    rw [hp]
    have hr' : r = 0 ∨ r = 1 ∨ r = 2 := by omega
    rcases hr' with rfl | rfl | rfl
    · rw [show o + (q * 3 + 0) = o + q * 3 by omega, hc0]; rfl
    · rw [show o + (q * 3 + 1) = o + q * 3 + 1 by omega, hpv]; rfl
    · rw [show o + (q * 3 + 2) = o + q * 3 + 2 by omega, hc2]; rfl
  · obtain ⟨l, hl1, hl2⟩ := List.mem_flatten.1 hu
    obtain ⟨i, hi, rfl⟩ := List.mem_iff_getElem.1 hl1
    have hi' : i < fs.length := by rw [List.length_zipWith, hl, Nat.min_self] at hi; exact hi
    have hz := zip_at funCells fs ps hl i hi'
    rw [List.getElem?_eq_getElem hi] at hz
    injection hz with hz
    rw [hz] at hl2
    obtain ⟨_, a, c, hs, _⟩ := hcap i hi'
    rw [hs] at hl2
    simp only [funCells, List.mem_cons, List.not_mem_nil, or_false] at hl2
    rcases hl2 with rfl | rfl | rfl <;> rfl
set_option maxRecDepth 100000 in
theorem cloneF_any (fs : List FunD) (v : Value) (w0 w : World) (h : IsFuns w0 v fs) (hB : Below w0.heap.size w0 w) (hm : fs.length ≤ 1000000) :
    Calls Tryz.prog 58 #[v] w fun e w' => ∃ a c ps, e = .returned (.slice a fs.length c) ∧ ps.length = fs.length ∧ w'.ownsRow w.heap.size 60 3 (.slice a fs.length c) fs.length (List.zipWith funCells fs ps).flatten ∧ (∀ j, j < fs.length → IsCap w0 (ps.getD j default) (fs.getD j default).params) ∧ Below w.heap.size w w' := by
  obtain ⟨a, c, rfl, hca, hat⟩ := h
  obtain ⟨n, hn⟩ : ∃ n, n = fs.length := ⟨_, rfl⟩
  have HN : Hid (n = fs.length) := hn
  cases a with
  | none =>
    have h0 : fs = [] := by
      rcases fs with _ | ⟨x, r⟩
      · rfl
      · obtain ⟨b, o, ea, _⟩ := hat 0 (by simp)
        cases ea
    subst h0
    rw [← hn]
    clear hat hca hm hn hB
    have hcmp : ∀ W : World, (binOp .eql 23 (.slice none n c) (.slice none 0 0)).run Tryz.prog W = .ok (.bool true) W := fun W => Lib.run_eql_slice_nil W _ _ none n c 0 0 Tryz.underlying23
    go_enter Tryz.func58, Tryz.ntmps58
    go_wp2_with fail
    go_ret
    rw [HN.out]
    exact ⟨none, 0, [], rfl, rfl, World.ownsRow_nil _ _ _ _, fun j hj => absurd hj (Nat.not_lt_zero _), Below.refl _ _⟩
  | some ad =>
    obtain ⟨ps, hl, hfl, hcc, hone, hcap⟩ : ∃ ps : List Value, ps.length = fs.length ∧ (List.zipWith funCells fs ps).flatten.length = fs.length * 3 ∧ (∀ j u, (List.zipWith funCells fs ps).flatten[j]? = some u → w.cell? (ad.add j) = some u) ∧ (∀ u ∈ (List.zipWith funCells fs ps).flatten, u.oneCell' = true) ∧ ∀ j, j < fs.length → IsCap w0 (ps.getD j default) (fs.getD j default).params := by
      rcases Nat.eq_zero_or_pos fs.length with e0 | hp
      · obtain rfl : fs = [] := List.length_eq_zero_iff.1 e0
        exact ⟨[], rfl, rfl, fun j u hj => by simp at hj, fun u hu => by simp at hu, fun j hj => absurd hj (Nat.not_lt_zero _)⟩
      · obtain ⟨b, o, ea, _⟩ := hat 0 hp
        injection ea with ea
        subst ea
        obtain ⟨ps, q1, q2, q3, q4, q5⟩ := cloneF_news (w := w0) (b := b) (o := o) (fs := fs) fun j hj => by
          obtain ⟨b', o', ea', q⟩ := hat j hj
          injection ea' with ea'
          injection ea' with e1 e2 _
          rw [e1, e2]
          exact q
        refine ⟨ps, q1, q2, fun j u hj => ?_, q4, q5⟩
        rw [Addr.add_lit]
        exact cell_keep hB (by rw [q3 j (List.getElem?_eq_some_iff.1 hj).1, hj])
    obtain ⟨v', w', hr, ho, hb⟩ := clone_run w 23 60 (.agg #[.string ⟨#[]⟩, .slice none 0 0, .int .i64 0]) 3 48 Tryz.underlying23 Tryz.infoFun (by decide) rfl (by decide) ad fs.length c _ hfl hcc hone hm 23
    obtain ⟨va, vc, rfl⟩ := owns_form ho
    rw [← hn] at hr ho ⊢
    have HX : Hid (ps.length = n ∧ w'.ownsRow w.heap.size 60 3 (.slice va n vc) n (List.zipWith funCells fs ps).flatten ∧ (∀ j, j < n → IsCap w0 (ps.getD j default) (fs.getD j default).params) ∧ Below w.heap.size w w') := ⟨by rw [hn]; exact hl, ho, by rw [hn]; exact hcap, hb⟩
    clear hB hat hca hm hn hl hfl hcc hone hcap ho hb
    have hcmp : ∀ W : World, (binOp .eql 23 (.slice (some ad) n c) (.slice none 0 0)).run Tryz.prog W = .ok (.bool false) W := fun W => Lib.run_eql_slice_nil W _ _ (some ad) n c 0 0 Tryz.underlying23
    go_enter Tryz.func58, Tryz.ntmps58
    go_wp2_with (at_builtin; refine Lib.wpList_append_run _ rfl _ _ _ _ rfl _ _ rfl rfl _ _ hr ?_)
    go_ret
    exact ⟨va, vc, ps, rfl, HX.out⟩

theorem cloneT_news {w : World} {b o : Nat} {fs : List StmtD} (h : ∀ j, j < fs.length → StmtAt w b (o + j * 4) (fs.getD j default)) :
    ∃ ps : List Value, ps.length = fs.length ∧ (List.zipWith stmtCells fs ps).flatten.length = fs.length * 4 ∧ (∀ j, j < (List.zipWith stmtCells fs ps).flatten.length → w.cell? ⟨b, o + j, none⟩ = (List.zipWith stmtCells fs ps).flatten[j]?) ∧ (∀ u ∈ (List.zipWith stmtCells fs ps).flatten, u.oneCell' = true) ∧ ∀ j, j < fs.length → IsCap w (ps.getD j default) (fs.getD j default).args := by
  obtain ⟨ps, hps⟩ : ∃ ps : List Value, ps = (List.range fs.length).map fun j => (w.cell? ⟨b, o + j * 4 + 3, none⟩).getD default := ⟨_, rfl⟩
  have hl : ps.length = fs.length := by rw [hps]; simp
  have hat : ∀ j, j < fs.length → ps.getD j default = (w.cell? ⟨b, o + j * 4 + 3, none⟩).getD default := fun j hj => by rw [hps]; simp [List.getD, hj]
  have hlen : ∀ l ∈ List.zipWith stmtCells fs ps, l.length = 4 := fun l hl => by
    obtain ⟨i, hi, rfl⟩ := List.mem_iff_getElem.1 hl
    simp [stmtCells]
  have hfl : (List.zipWith stmtCells fs ps).flatten.length = fs.length * 4 := by
    have key : ∀ L : List (List Value), (∀ l ∈ L, l.length = 4) → L.flatten.length = L.length * 4 := fun L => by
      induction L with
      | nil => exact fun _ => rfl
      | cons a L ih =>
        intro h
        rw [List.flatten_cons, List.length_append, ih (fun l hl => h l (List.mem_cons_of_mem _ hl)), h a (List.mem_cons_self ..), List.length_cons]
        omega
    rw [key _ hlen, List.length_zipWith, hl, Nat.min_self]
  have hcap : ∀ j, j < fs.length → IsCap w (ps.getD j default) (fs.getD j default).args := fun j hj => by
    obtain ⟨pv, hc0, hc1, hc2, hpv, hic⟩ := h j hj
    rw [hat j hj, hpv]
    exact hic
  refine ⟨ps, hl, hfl, fun j hj => ?_, fun u hu => ?_, hcap⟩
  · rw [hfl] at hj
    obtain ⟨q, r, hr, rfl⟩ : ∃ q r, r < 4 ∧ j = q * 4 + r := ⟨j / 4, j % 4, Nat.mod_lt _ (by decide), by omega⟩
    have hq : q < fs.length := by omega
    rw [flatten_at _ 4 hlen q r _ (zip_at stmtCells fs ps hl q hq) hr]
    obtain ⟨pv, hc0, hc1, hc2, hpv, hic⟩ := h q hq
    have hp := hat q hq
    rw [hpv] at hp
    rw [hp]
    have hr' : r = 0 ∨ r = 1 ∨ r = 2 ∨ r = 3 := by omega
    rcases hr' with rfl | rfl | rfl | rfl
    · rw [show o + (q * 4 + 0) = o + q * 4 by omega, hc0]; rfl
    · rw [show o + (q * 4 + 1) = o + q * 4 + 1 by omega, hc1]; rfl
    · rw [show o + (q * 4 + 2) = o + q * 4 + 2 by omega, hc2]; rfl
    · rw [show o + (q * 4 + 3) = o + q * 4 + 3 by omega, hpv]; rfl
  · obtain ⟨l, hl1, hl2⟩ := List.mem_flatten.1 hu
    obtain ⟨i, hi, rfl⟩ := List.mem_iff_getElem.1 hl1
    have hi' : i < fs.length := by rw [List.length_zipWith, hl, Nat.min_self] at hi; exact hi
    have hz := zip_at stmtCells fs ps hl i hi'
    rw [List.getElem?_eq_getElem hi] at hz
    injection hz with hz
    rw [hz] at hl2
    obtain ⟨_, a, c, hs, _⟩ := hcap i hi'
    rw [hs] at hl2
    simp only [stmtCells, List.mem_cons, List.not_mem_nil, or_false] at hl2
    rcases hl2 with rfl | rfl | rfl | rfl <;> rfl
set_option maxRecDepth 100000 in
theorem cloneT_any (fs : List StmtD) (v : Value) (w0 w : World) (h : IsStmts w0 v fs) (hB : Below w0.heap.size w0 w) (hm : fs.length ≤ 1000000) :
    Calls Tryz.prog 59 #[v] w fun e w' => ∃ a c ps, e = .returned (.slice a fs.length c) ∧ ps.length = fs.length ∧ w'.ownsRow w.heap.size 45 4 (.slice a fs.length c) fs.length (List.zipWith stmtCells fs ps).flatten ∧ (∀ j, j < fs.length → IsCap w0 (ps.getD j default) (fs.getD j default).args) ∧ Below w.heap.size w w' := by
  obtain ⟨a, c, rfl, hca, hat⟩ := h
  obtain ⟨n, hn⟩ : ∃ n, n = fs.length := ⟨_, rfl⟩
  have HN : Hid (n = fs.length) := hn
  cases a with
  | none =>
    have h0 : fs = [] := by
      rcases fs with _ | ⟨x, r⟩
      · rfl
      · obtain ⟨b, o, ea, _⟩ := hat 0 (by simp)
        cases ea
    subst h0
    rw [← hn]
    clear hat hca hm hn hB
    have hcmp : ∀ W : World, (binOp .eql 24 (.slice none n c) (.slice none 0 0)).run Tryz.prog W = .ok (.bool true) W := fun W => Lib.run_eql_slice_nil W _ _ none n c 0 0 Tryz.underlying24
    go_enter Tryz.func59, Tryz.ntmps59
    go_wp2_with fail
    go_ret
    rw [HN.out]
    exact ⟨none, 0, [], rfl, rfl, World.ownsRow_nil _ _ _ _, fun j hj => absurd hj (Nat.not_lt_zero _), Below.refl _ _⟩
  | some ad =>
    obtain ⟨ps, hl, hfl, hcc, hone, hcap⟩ : ∃ ps : List Value, ps.length = fs.length ∧ (List.zipWith stmtCells fs ps).flatten.length = fs.length * 4 ∧ (∀ j u, (List.zipWith stmtCells fs ps).flatten[j]? = some u → w.cell? (ad.add j) = some u) ∧ (∀ u ∈ (List.zipWith stmtCells fs ps).flatten, u.oneCell' = true) ∧ ∀ j, j < fs.length → IsCap w0 (ps.getD j default) (fs.getD j default).args := by
      rcases Nat.eq_zero_or_pos fs.length with e0 | hp
      · obtain rfl : fs = [] := List.length_eq_zero_iff.1 e0
        exact ⟨[], rfl, rfl, fun j u hj => by simp at hj, fun u hu => by simp at hu, fun j hj => absurd hj (Nat.not_lt_zero _)⟩
      · obtain ⟨b, o, ea, _⟩ := hat 0 hp
        injection ea with ea
        subst ea
        obtain ⟨ps, q1, q2, q3, q4, q5⟩ := cloneT_news (w := w0) (b := b) (o := o) (fs := fs) fun j hj => by
          obtain ⟨b', o', ea', q⟩ := hat j hj
          injection ea' with ea'
          injection ea' with e1 e2 _
          rw [e1, e2]
          exact q
        refine ⟨ps, q1, q2, fun j u hj => ?_, q4, q5⟩
        rw [Addr.add_lit]
        exact cell_keep hB (by rw [q3 j (List.getElem?_eq_some_iff.1 hj).1, hj])
    obtain ⟨v', w', hr, ho, hb⟩ := clone_run w 24 45 (.agg #[.string ⟨#[]⟩, .int .i64 0, .int .i64 0, .slice none 0 0]) 4 56 Tryz.underlying24 Tryz.infoStmt (by decide) rfl (by decide) ad fs.length c _ hfl hcc hone hm 24
    obtain ⟨va, vc, rfl⟩ := owns_form ho
    rw [← hn] at hr ho ⊢
    have HX : Hid (ps.length = n ∧ w'.ownsRow w.heap.size 45 4 (.slice va n vc) n (List.zipWith stmtCells fs ps).flatten ∧ (∀ j, j < n → IsCap w0 (ps.getD j default) (fs.getD j default).args) ∧ Below w.heap.size w w') := ⟨by rw [hn]; exact hl, ho, by rw [hn]; exact hcap, hb⟩
    clear hB hat hca hm hn hl hfl hcc hone hcap ho hb
    have hcmp : ∀ W : World, (binOp .eql 24 (.slice (some ad) n c) (.slice none 0 0)).run Tryz.prog W = .ok (.bool false) W := fun W => Lib.run_eql_slice_nil W _ _ (some ad) n c 0 0 Tryz.underlying24
    go_enter Tryz.func59, Tryz.ntmps59
    go_wp2_with (at_builtin; refine Lib.wpList_append_run _ rfl _ _ _ _ rfl _ _ rfl rfl _ _ hr ?_)
    go_ret
    exact ⟨va, vc, ps, rfl, HX.out⟩
end Go.Proofs.YtglonlpfnllocaaGreatDoor

/-
  Package solve: slices.Clone of names; a row of functions, or of statements, of which one has other numbers.
-/
namespace Go.Proofs.YtglonlpfnllocaaGreatDoor
open Go.RowKit Go.Extern.Stop Go.Stop Go.Extern

theorem cloneS_any (ss : List Bs) (v : Value) (w : World) (h : IsStrs w v ss) (hm : ss.length ≤ 1000000) :
    Calls Tryz.prog 57 #[v] w fun e w' => ∃ a c, e = .returned (.slice a ss.length c) ∧ w'.ownsRow w.heap.size 9 1 (.slice a ss.length c) ss.length (ss.map strV) ∧ Below w.heap.size w w' := by
  obtain ⟨a, c, rfl, hca, hat⟩ := h
  cases a with
  | none =>
    have h0 : ss = [] := by
      rcases ss with _ | ⟨x, r⟩
      · rfl
      · obtain ⟨b, o, ea, _⟩ := hat 0 (by simp)
        cases ea
    subst h0
    refine (Tryz.slices_Clone_string_nil _ c w).mono ?_
    rintro e w' ⟨rfl, rfl⟩
    exact ⟨none, 0, rfl, World.ownsRow_nil _ _ _ _, Below.refl _ _⟩
  | some ad =>
    rcases Nat.eq_zero_or_pos ss.length with e0 | hp
    · obtain rfl : ss = [] := List.length_eq_zero_iff.1 e0
      refine (Tryz.slices_Clone_string_zero ad c w).mono ?_
      rintro e w' ⟨v', rfl, h1, -, h2⟩
      obtain ⟨va, vc, rfl⟩ := owns_form h1
      exact ⟨va, vc, rfl, h1, h2⟩
    · obtain ⟨b, o, ea, _⟩ := hat 0 hp
      injection ea with ea
      subst ea
      have hl : (ss.map S).length = ss.length := List.length_map ..
      refine (Tryz.slices_Clone_string b o ss.length c (ss.map S) w (by omega) (by omega) (fun j hj => ?_)).mono ?_
      · rw [hl] at hj
        obtain ⟨b', o', ea', q⟩ := hat j hj
        injection ea' with ea'
        injection ea' with e1 e2 _
        rw [e1, e2, q]
        simp [List.getD, hj]
      · rintro e w' ⟨v', rfl, h1, -, h2⟩
        obtain ⟨va, vc, rfl⟩ := owns_form h1
        refine ⟨va, vc, rfl, ?_, h2⟩
        rw [List.take_of_length_le (by omega), List.map_map] at h1
        exact h1
theorem flatten_set {α : Type} (L : List (List α)) (m : Nat) (h : ∀ l ∈ L, l.length = m) : ∀ (j i : Nat) (l : List α) (x : α), L[j]? = some l → i < m → L.flatten.set (j * m + i) x = (L.set j (l.set i x)).flatten := by
  induction L with
  | nil => intro j i l x hl; simp at hl
  | cons a r ih =>
    intro j i l x hl hi
    have ha : a.length = m := h a (List.mem_cons_self ..)
    cases j with
    | zero =>
      simp at hl
      subst hl
      rw [List.flatten_cons, Nat.zero_mul, Nat.zero_add, List.set_append_left _ _ (by omega), List.set_cons_zero, List.flatten_cons]
    | succ j =>
      have hl' : r[j]? = some l := by simpa using hl
      have hjm : (j + 1) * m + i = a.length + (j * m + i) := by rw [ha, Nat.succ_mul]; omega
      rw [List.flatten_cons, hjm, List.set_append_right _ _ (by omega), Nat.add_sub_cancel_left, ih (fun l hl => h l (List.mem_cons_of_mem _ hl)) j i l x hl' hi, List.set_cons_succ, List.flatten_cons]
theorem zip_set {α β : Type} [Inhabited α] (f : α → β → List Value) (l : List α) : ∀ (m : List β) (j : Nat) (y : β), m.length = l.length → j < l.length → (List.zipWith f l m).set j (f (l.getD j default) y) = List.zipWith f l (m.set j y) := by
  induction l with
  | nil => intro m j y _ hj; exact absurd hj (Nat.not_lt_zero _)
  | cons a r ih =>
    intro m j y hm hj
    rcases m with _ | ⟨b, m⟩
    · simp at hm
    · cases j with
      | zero => rfl
      | succ j =>
        show _ :: _ = _ :: _
        rw [List.getD_cons_succ, ih m j y (by simpa using hm) (by simpa using hj)]
/-- A function has other numbers, a statement likewise. -/
theorem funs_set (fs : List FunD) (ps : List Value) (hl : ps.length = fs.length) (j : Nat) (hj : j < fs.length) (pv : Value) : (List.zipWith funCells fs ps).flatten.set (j * 3 + 1) pv = (List.zipWith funCells fs (ps.set j pv)).flatten := by
  have hlen : ∀ l ∈ List.zipWith funCells fs ps, l.length = 3 := fun l hl => by
    obtain ⟨i, hi, rfl⟩ := List.mem_iff_getElem.1 hl
    simp [funCells]
  rw [flatten_set _ 3 hlen j 1 _ pv (zip_at funCells fs ps hl j hj) (by decide), ← zip_set funCells fs ps j pv hl hj]
  rfl
theorem stmts_set (ss : List StmtD) (qs : List Value) (hl : qs.length = ss.length) (j : Nat) (hj : j < ss.length) (pv : Value) : (List.zipWith stmtCells ss qs).flatten.set (j * 4 + 3) pv = (List.zipWith stmtCells ss (qs.set j pv)).flatten := by
  have hlen : ∀ l ∈ List.zipWith stmtCells ss qs, l.length = 4 := fun l hl => by
    obtain ⟨i, hi, rfl⟩ := List.mem_iff_getElem.1 hl
    simp [stmtCells]
  rw [flatten_set _ 4 hlen j 3 _ pv (zip_at stmtCells ss qs hl j hj) (by decide), ← zip_set stmtCells ss qs j pv hl hj]
  rfl
end Go.Proofs.YtglonlpfnllocaaGreatDoor

/-
  Package solve: copied: a program in memory of its own.
-/
namespace Go.Proofs.YtglonlpfnllocaaGreatDoor
open Go.RowKit Go.Extern.Stop Go.Stop Go.Extern

abbrev TPgS : TypeId := 26
/-- On the way of a copy: of the first k functions and the first l statements the numbers are one's own. -/
structure CopyS (w0 w : World) (pb : Nat) (P : ProgD) (v1 v2 v3 : Value) (ps qs : List Value) (k l : Nat) : Prop where
  low : w0.heap.size ≤ pb
  blk : w.heap[pb]? = some (.cells #[v1, v2, v3] TPgS (0, 0))
  o1 : w.ownsRow w0.heap.size 9 1 v1 P.vars.length (P.vars.map strV)
  l2 : ps.length = P.funs.length
  o2 : w.ownsRow w0.heap.size 60 3 v2 P.funs.length (List.zipWith funCells P.funs ps).flatten
  i2 : ∀ j, j < P.funs.length → j < k → w.ownsRow w0.heap.size 3 1 (ps.getD j default) (P.funs.getD j default).params.length ((P.funs.getD j default).params.map intV)
  c2 : ∀ j, j < P.funs.length → k ≤ j → IsCap w0 (ps.getD j default) (P.funs.getD j default).params
  l3 : qs.length = P.stmts.length
  o3 : w.ownsRow w0.heap.size 45 4 v3 P.stmts.length (List.zipWith stmtCells P.stmts qs).flatten
  i3 : ∀ j, j < P.stmts.length → j < l → w.ownsRow w0.heap.size 3 1 (qs.getD j default) (P.stmts.getD j default).args.length ((P.stmts.getD j default).args.map intV)
  c3 : ∀ j, j < P.stmts.length → l ≤ j → IsCap w0 (qs.getD j default) (P.stmts.getD j default).args
  blw : Below w0.heap.size w0 w
theorem CopyS.below {w0 w w' : World} {pb : Nat} {P : ProgD} {v1 v2 v3 : Value} {ps qs : List Value} {k l : Nat} (h : CopyS w0 w pb P v1 v2 v3 ps qs k l) (hb : Below w.heap.size w w') : CopyS w0 w' pb P v1 v2 v3 ps qs k l :=
  ⟨h.low, block_keep hb h.blk, owns_below h.o1 hb, h.l2, owns_below h.o2 hb, fun j hj hk => owns_below (h.i2 j hj hk) hb, h.c2, h.l3, owns_below h.o3 hb, fun j hj hk => owns_below (h.i3 j hj hk) hb, h.c3, h.blw.trans (hb.mono h.blw.size)⟩
/-- A whole copy reads as the program. -/
theorem CopyS.funs {w0 w : World} {pb : Nat} {P : ProgD} {v1 v2 v3 : Value} {ps qs : List Value} {k l : Nat} (h : CopyS w0 w pb P v1 v2 v3 ps qs k l) (hk : k = P.funs.length) : ∀ j, j < P.funs.length → IsCap w (ps.getD j default) (P.funs.getD j default).params := fun j hj => isCap_of_owns (h.i2 j hj (by omega))
end Go.Proofs.YtglonlpfnllocaaGreatDoor

/-
  Package solve: copied: a program in memory of its own.
-/
namespace Go.Proofs.YtglonlpfnllocaaGreatDoor
open Go.RowKit Go.Extern.Stop Go.Stop Go.Extern

attribute [local go_sem] Nat.lt_add_one
theorem keep_cells {w w' : World} (h : Below w.heap.size w w') : (∀ b k, b < w.heap.size → w'.cell? ⟨b, k, none⟩ = w.cell? ⟨b, k, none⟩) ∧ (∀ b k, b < w.heap.size → w'.frozen? ⟨b, k, none⟩ = w.frozen? ⟨b, k, none⟩) ∧ (∀ b, b < w.heap.size → b < w'.heap.size) := by
  refine ⟨fun b k hb => ?_, fun b k hb => ?_, fun b hb => Nat.lt_of_lt_of_le hb h.size⟩
  · unfold World.cell?
    rw [h.block b hb]
  · unfold World.frozen?
    rw [h.block b hb]
theorem lt_alloc (w : World) (o : Obj) : w.heap.size < (w.alloc o).heap.size := by rw [World.size_alloc]; exact Nat.lt_succ_self _
theorem below_set {w0 w w1 : World} {o : Nat} {v : Value} (h : Below w0.heap.size w0 w) (h1 : Below w0.heap.size w0 w1) : Below w0.heap.size w0 (w.setCell ⟨w1.heap.size, o, none⟩ v) := h.setCell h1.size v
theorem copy_new {w0 w : World} {P : ProgD} {v1 v2 v3 : Value} {ps qs : List Value} (hb : Below w0.heap.size w0 w) (o1 : w.ownsRow w0.heap.size 9 1 v1 P.vars.length (P.vars.map strV)) (o2 : w.ownsRow w0.heap.size 60 3 v2 P.funs.length (List.zipWith funCells P.funs ps).flatten) (o3 : w.ownsRow w0.heap.size 45 4 v3 P.stmts.length (List.zipWith stmtCells P.stmts qs).flatten)
    (l2 : ps.length = P.funs.length) (c2 : ∀ j, j < P.funs.length → IsCap w0 (ps.getD j default) (P.funs.getD j default).params) (l3 : qs.length = P.stmts.length) (c3 : ∀ j, j < P.stmts.length → IsCap w0 (qs.getD j default) (P.stmts.getD j default).args) : CopyS w0 (w.alloc (.cells #[v1, v2, v3] TPgS)) w.heap.size P v1 v2 v3 ps qs 0 0 :=
  ⟨hb.size, heap_new w _, owns_below o1 (below1 _ _), l2, owns_below o2 (below1 _ _), fun _ _ hj => absurd hj (Nat.not_lt_zero _), fun j hj _ => c2 j hj, l3, owns_below o3 (below1 _ _), fun _ _ hj => absurd hj (Nat.not_lt_zero _), fun j hj _ => c3 j hj, below_alC hb _⟩
theorem copy_set {w0 w : World} {pb : Nat} {P : ProgD} {v1 v2 v3 z1 z2 z3 : Value} {ps qs : List Value} (hb : Below w0.heap.size w0 w) (hlow : w0.heap.size ≤ pb) (hz : w.heap[pb]? = some (.cells #[z1, z2, z3] TPgS (0, 0))) (o1 : w.ownsRow w0.heap.size 9 1 v1 P.vars.length (P.vars.map strV)) (o2 : w.ownsRow w0.heap.size 60 3 v2 P.funs.length (List.zipWith funCells P.funs ps).flatten) (o3 : w.ownsRow w0.heap.size 45 4 v3 P.stmts.length (List.zipWith stmtCells P.stmts qs).flatten)
    (l2 : ps.length = P.funs.length) (c2 : ∀ j, j < P.funs.length → IsCap w0 (ps.getD j default) (P.funs.getD j default).params) (l3 : qs.length = P.stmts.length) (c3 : ∀ j, j < P.stmts.length → IsCap w0 (qs.getD j default) (P.stmts.getD j default).args) : CopyS w0 (((w.setCell ⟨pb, 0, none⟩ v1).setCell ⟨pb, 1, none⟩ v2).setCell ⟨pb, 2, none⟩ v3) pb P v1 v2 v3 ps qs 0 0 := by
  have b1 := set_block w pb 0 _ _ _ hz v1
  have b2 := set_block _ pb 1 _ _ _ b1 v2
  have b3 := set_block _ pb 2 _ _ _ b2 v3
  have k1 := kept_setCell (i := 0) hz v1
  have k2 := kept_setCell (i := 1) b1 v2
  have k3 := kept_setCell (i := 2) b2 v3
  exact ⟨hlow, b3, owns_kept (owns_kept (owns_kept o1 k1 (by decide)) k2 (by decide)) k3 (by decide), l2, owns_kept (owns_kept (owns_kept o2 k1 (by decide)) k2 (by decide)) k3 (by decide), fun _ _ hj => absurd hj (Nat.not_lt_zero _), fun j hj _ => c2 j hj, l3, owns_kept (owns_kept (owns_kept o3 k1 (by decide)) k2 (by decide)) k3 (by decide), fun _ _ hj => absurd hj (Nat.not_lt_zero _), fun j hj _ => c3 j hj, ((hb.setCell hlow _).setCell hlow _).setCell hlow _⟩
theorem owns_setW {w : World} {B g c m : Nat} {e : TypeId} {k n : Nat} {xs : List Value} (h : w.ownsRow B e k (.slice (some ⟨g, 0, none⟩) m c) n xs) (i : Nat) (x : Value) : (w.setCell ⟨g, i, none⟩ x).ownsRow B e k (.slice (some ⟨g, 0, none⟩) m c) n (xs.set i x) := by
  obtain ⟨hl, h2⟩ := h
  refine ⟨by simpa using hl, Or.inr ?_⟩
  rcases h2 with ⟨q, _⟩ | ⟨g', cap, cur, hv, hg, hh, hcap, hmax, hsz, hcur⟩
  · cases q
  · cases hv
    refine ⟨g, c, cur.setIfInBounds i x, rfl, hg, set_block _ _ _ _ _ _ hh x, hcap, hmax, by simpa using hsz, ?_⟩
    rw [← hcur]
    simp [List.take_set]
theorem owns_blockW {w : World} {B g c m : Nat} {e : TypeId} {k n : Nat} {xs : List Value} (h : w.ownsRow B e k (.slice (some ⟨g, 0, none⟩) m c) n xs) : B ≤ g ∧ ∃ cur, w.heap[g]? = some (.cells cur e (0, 0)) := by
  rcases h.2 with ⟨q, _⟩ | ⟨g', cap, cur, hv, hg, hh, _⟩
  · cases q
  · cases hv
    exact ⟨hg, cur, hh⟩
theorem set_sameV (ps : List Value) (k : Nat) (pv : Value) (h : k < ps.length) : (ps.set k pv).getD k default = pv := by simp [List.getD, h]
theorem set_otherV (ps : List Value) (k j : Nat) (pv : Value) (h : j ≠ k) : (ps.set k pv).getD j default = ps.getD j default := by simp [List.getD, List.getElem?_set_ne (Ne.symm h)]
theorem CopyS.setFun {w0 w : World} {pb g n c : Nat} {P : ProgD} {v1 v3 : Value} {ps qs : List Value} {k l : Nat} (h : CopyS w0 w pb P v1 (.slice (some ⟨g, 0, none⟩) n c) v3 ps qs k l) (hk : k < P.funs.length) (pv : Value) (hp : w.ownsRow w0.heap.size 3 1 pv (P.funs.getD k default).params.length ((P.funs.getD k default).params.map intV)) : CopyS w0 (w.setCell ⟨g, k * 3 + 1, none⟩ pv) pb P v1 (.slice (some ⟨g, 0, none⟩) n c) v3 (ps.set k pv) qs (k + 1) l := by
  obtain ⟨hg, cur, hh⟩ := owns_blockW h.o2
  have hset := kept_setCell (i := k * 3 + 1) hh pv
  have hlen : ps.length = P.funs.length := h.l2
  refine ⟨h.low, hset _ _ _ _ h.blk (by decide), owns_kept h.o1 hset (by decide), by rw [List.length_set]; exact h.l2, by rw [← funs_set P.funs ps h.l2 k hk pv]; exact owns_setW h.o2 _ pv, fun j hj hjk => ?_, fun j hj hjk => by rw [set_otherV _ _ _ _ (by omega)]; exact h.c2 j hj (by omega), h.l3, owns_kept h.o3 hset (by decide), fun j hj hjl => owns_kept (h.i3 j hj hjl) hset (by decide), h.c3, h.blw.setCell hg _⟩
  by_cases e : j = k
  · subst e
    rw [set_sameV _ _ _ (by omega)]
    exact owns_kept hp hset (by decide)
  · rw [set_otherV _ _ _ _ e]
    exact owns_kept (h.i2 j hj (by omega)) hset (by decide)
theorem CopyS.setStmt {w0 w : World} {pb g n c : Nat} {P : ProgD} {v1 v2 : Value} {ps qs : List Value} {k l : Nat} (h : CopyS w0 w pb P v1 v2 (.slice (some ⟨g, 0, none⟩) n c) ps qs k l) (hk : l < P.stmts.length) (pv : Value) (hp : w.ownsRow w0.heap.size 3 1 pv (P.stmts.getD l default).args.length ((P.stmts.getD l default).args.map intV)) : CopyS w0 (w.setCell ⟨g, l * 4 + 3, none⟩ pv) pb P v1 v2 (.slice (some ⟨g, 0, none⟩) n c) ps (qs.set l pv) k (l + 1) := by
  obtain ⟨hg, cur, hh⟩ := owns_blockW h.o3
  have hset := kept_setCell (i := l * 4 + 3) hh pv
  have hlen : qs.length = P.stmts.length := h.l3
  refine ⟨h.low, hset _ _ _ _ h.blk (by decide), owns_kept h.o1 hset (by decide), h.l2, owns_kept h.o2 hset (by decide), fun j hj hjl => owns_kept (h.i2 j hj hjl) hset (by decide), h.c2, by rw [List.length_set]; exact h.l3, by rw [← stmts_set P.stmts qs h.l3 l hk pv]; exact owns_setW h.o3 _ pv, fun j hj hjk => ?_, fun j hj hjk => by rw [set_otherV _ _ _ _ (by omega)]; exact h.c3 j hj (by omega), h.blw.setCell hg _⟩
  by_cases e : j = l
  · subst e
    rw [set_sameV _ _ _ (by omega)]
    exact owns_kept hp hset (by decide)
  · rw [set_otherV _ _ _ _ e]
    exact owns_kept (h.i3 j hj (by omega)) hset (by decide)
theorem CopyS.other {w0 w : World} {pb b : Nat} {P : ProgD} {v1 v2 v3 : Value} {ps qs : List Value} {k l : Nat} {zs : Array Value} (h : CopyS w0 w pb P v1 v2 v3 ps qs k l) (hb : w.heap[b]? = some (.cells zs TPgS (0, 0))) (hne : pb ≠ b) (hlow : w0.heap.size ≤ b) (i : Nat) (x : Value) : CopyS w0 (w.setCell ⟨b, i, none⟩ x) pb P v1 v2 v3 ps qs k l := by
  have hset := kept_setCell (i := i) hb x
  refine ⟨h.low, ?_, owns_kept h.o1 hset (by decide), h.l2, owns_kept h.o2 hset (by decide), fun j hj hk => owns_kept (h.i2 j hj hk) hset (by decide), h.c2, h.l3, owns_kept h.o3 hset (by decide), fun j hj hk => owns_kept (h.i3 j hj hk) hset (by decide), h.c3, h.blw.setCell hlow _⟩
  simp only [World.setCell, Array.getElem?_modify]
  rw [if_neg (fun q => hne q.symm)]
  exact h.blk
theorem CopyS.other3 {w0 w : World} {pb b : Nat} {P : ProgD} {v1 v2 v3 : Value} {ps qs : List Value} {k l : Nat} {zs : Array Value} (h : CopyS w0 w pb P v1 v2 v3 ps qs k l) (hb : w.heap[b]? = some (.cells zs TPgS (0, 0))) (hne : pb ≠ b) (hlow : w0.heap.size ≤ b) (x y z : Value) : CopyS w0 (((w.setCell ⟨b, 0, none⟩ x).setCell ⟨b, 1, none⟩ y).setCell ⟨b, 2, none⟩ z) pb P v1 v2 v3 ps qs k l :=
  ((h.other hb hne hlow 0 x).other (set_block _ _ _ _ _ _ hb x) hne hlow 1 y).other (set_block _ _ _ _ _ _ (set_block _ _ _ _ _ _ hb x) y) hne hlow 2 z
end Go.Proofs.YtglonlpfnllocaaGreatDoor

/-
  Package solve: copied, its walk.
-/
namespace Go.Proofs.YtglonlpfnllocaaGreatDoor
open Go.RowKit Go.Extern.Stop Go.Stop Go.Extern

attribute [local go_sem] Nat.lt_add_one
set_option maxRecDepth 100000 in
set_option maxHeartbeats 16000000 in
theorem copied_any (P : ProgD) (v1 v2 v3 : Value) (w : World) (hs : SmallP P) (h : IsProg w v1 v2 v3 P) :
    Calls Tryz.prog 26 #[.agg #[v1, v2, v3]] w fun e w' => ∃ pb u1 u2 u3 ps qs, e = .returned (.agg #[u1, u2, u3]) ∧ CopyS w w' pb P u1 u2 u3 ps qs P.funs.length P.stmts.length := by
  obtain ⟨W2, hW2⟩ : ∃ W, W = (w.alloc (.cells #[v1, v2, v3] TPgS)).alloc (.cells #[.slice none 0 0, .slice none 0 0, .slice none 0 0] TPgS) := ⟨_, rfl⟩
  have hBW : Below w.heap.size w W2 := by rw [hW2]; exact (below1 w _).alloc (by simp) _
  obtain ⟨bx, hbx⟩ : ∃ b, b = w.heap.size := ⟨_, rfl⟩
  have hX : W2.heap[bx]? = some (.cells #[v1, v2, v3] TPgS (0, 0)) := by rw [hW2, hbx]; exact block_keep (below1 _ _) (heap_new w _)
  have HK : Hid (∀ wx, Below W2.heap.size W2 wx → Below W2.heap.size W2 wx ∧ wx.cell? ⟨bx, 0, none⟩ = some v1 ∧ wx.cell? ⟨bx, 1, none⟩ = some v2 ∧ wx.cell? ⟨bx, 2, none⟩ = some v3) := fun wx hb =>
    ⟨hb, by rw [Lib.cell_of_heap (block_keep hb hX)]; rfl, by rw [Lib.cell_of_heap (block_keep hb hX)]; rfl, by rw [Lib.cell_of_heap (block_keep hb hX)]; rfl⟩
  obtain ⟨m1, hm1⟩ : ∃ m, m = P.vars.length := ⟨_, rfl⟩
  obtain ⟨n2, hn2⟩ : ∃ m, m = P.funs.length := ⟨_, rfl⟩
  obtain ⟨n3, hn3⟩ : ∃ m, m = P.stmts.length := ⟨_, rfl⟩
  have hsv := hs.1
  have hsf := hs.2.1
  have hst := hs.2.2.1
  have KS : Hid (∀ wx, Below W2.heap.size W2 wx → Calls Tryz.prog 57 #[v1] wx fun e w' => ∃ a c, e = .returned (.slice a m1 c) ∧ (∀ wz, Below w'.heap.size w' wz → wz.ownsRow w.heap.size 9 1 (.slice a m1 c) P.vars.length (P.vars.map strV)) ∧ (∀ b k, b < wx.heap.size → w'.cell? ⟨b, k, none⟩ = wx.cell? ⟨b, k, none⟩) ∧ (∀ b k, b < wx.heap.size → w'.frozen? ⟨b, k, none⟩ = wx.frozen? ⟨b, k, none⟩) ∧ (∀ b, b < wx.heap.size → b < w'.heap.size) ∧ ∀ w9, Below w9.heap.size w9 wx → Below w9.heap.size w9 w') := fun wx hb => by
    refine (cloneS_any P.vars v1 wx (h.vars.below (hBW.trans (hb.mono hBW.size))) (by omega)).mono ?_
    rintro e w' ⟨a, c, rfl, ho, hb2⟩
    exact ⟨a, c, by rw [hm1], fun wz hz => by rw [hm1]; exact owns_mono (owns_below ho hz) (Nat.le_trans hBW.size hb.size), (keep_cells hb2).1, (keep_cells hb2).2.1, (keep_cells hb2).2.2, fun w9 h9 => h9.trans (hb2.mono h9.size)⟩
  have KF : Hid (∀ wx, Below W2.heap.size W2 wx → Calls Tryz.prog 58 #[v2] wx fun e w' => ∃ a c ps, e = .returned (.slice a n2 c) ∧ (∀ wz, Below w'.heap.size w' wz → wz.ownsRow w.heap.size 60 3 (.slice a n2 c) P.funs.length (List.zipWith funCells P.funs ps).flatten) ∧ (ps.length = P.funs.length ∧ ∀ j, j < P.funs.length → IsCap w (ps.getD j default) (P.funs.getD j default).params) ∧ (∀ b k, b < wx.heap.size → w'.cell? ⟨b, k, none⟩ = wx.cell? ⟨b, k, none⟩) ∧ (∀ b k, b < wx.heap.size → w'.frozen? ⟨b, k, none⟩ = wx.frozen? ⟨b, k, none⟩) ∧ (∀ b, b < wx.heap.size → b < w'.heap.size) ∧ ∀ w9, Below w9.heap.size w9 wx → Below w9.heap.size w9 w') := fun wx hb => by
    have hb0 := hBW.trans (hb.mono hBW.size)
    refine (cloneF_any P.funs v2 w wx h.funs hb0 (by omega)).mono ?_
    rintro e w' ⟨a, c, ps, rfl, hpl, ho, hpc, hb2⟩
    exact ⟨a, c, ps, by rw [hn2], fun wz hz => by rw [hn2]; exact owns_mono (owns_below ho hz) (Nat.le_trans hBW.size hb.size), ⟨hpl, hpc⟩, (keep_cells hb2).1, (keep_cells hb2).2.1, (keep_cells hb2).2.2, fun w9 h9 => h9.trans (hb2.mono h9.size)⟩
  have KT : Hid (∀ wx, Below W2.heap.size W2 wx → Calls Tryz.prog 59 #[v3] wx fun e w' => ∃ a c qs, e = .returned (.slice a n3 c) ∧ (∀ wz, Below w'.heap.size w' wz → wz.ownsRow w.heap.size 45 4 (.slice a n3 c) P.stmts.length (List.zipWith stmtCells P.stmts qs).flatten) ∧ (qs.length = P.stmts.length ∧ ∀ j, j < P.stmts.length → IsCap w (qs.getD j default) (P.stmts.getD j default).args) ∧ (∀ b k, b < wx.heap.size → w'.cell? ⟨b, k, none⟩ = wx.cell? ⟨b, k, none⟩) ∧ (∀ b k, b < wx.heap.size → w'.frozen? ⟨b, k, none⟩ = wx.frozen? ⟨b, k, none⟩) ∧ (∀ b, b < wx.heap.size → b < w'.heap.size) ∧ ∀ w9, Below w9.heap.size w9 wx → Below w9.heap.size w9 w') := fun wx hb => by
    have hb0 := hBW.trans (hb.mono hBW.size)
    refine (cloneT_any P.stmts v3 w wx h.stmts hb0 (by omega)).mono ?_
    rintro e w' ⟨a, c, qs, rfl, hpl, ho, hpc, hb2⟩
    exact ⟨a, c, qs, by rw [hn3], fun wz hz => by rw [hn3]; exact owns_mono (owns_below ho hz) (Nat.le_trans hBW.size hb.size), ⟨hpl, hpc⟩, (keep_cells hb2).1, (keep_cells hb2).2.1, (keep_cells hb2).2.2, fun w9 h9 => h9.trans (hb2.mono h9.size)⟩
  have HRB : Hid (W2.heap[bx + 1]? = some (.cells #[.slice none 0 0, .slice none 0 0, .slice none 0 0] TPgS (0, 0)) ∧ W2.heap.size = bx + 2) := by
    show _ ∧ _
    rw [hW2, hbx]
    have := heap_new (w.alloc (.cells #[v1, v2, v3] TPgS)) (.cells #[.slice none 0 0, .slice none 0 0, .slice none 0 0] TPgS)
    rw [World.size_alloc] at this
    exact ⟨this, by simp⟩
  have HW2 : Hid (Below w.heap.size w W2 ∧ W2 = (w.alloc (.cells #[v1, v2, v3] TPgS)).alloc (.cells #[.slice none 0 0, .slice none 0 0, .slice none 0 0] TPgS) ∧ bx = w.heap.size ∧ SmallP P ∧ m1 = P.vars.length ∧ n2 = P.funs.length ∧ n3 = P.stmts.length) := ⟨hBW, hW2, hbx, hs, hm1, hn2, hn3⟩
  clear hBW hX hsv hsf hst hs hW2 hbx hm1 hn2 hn3 h
  go_enter Tryz.func26, Tryz.ntmps26
  go_upto_region 1 with fail
  rw [← HW2.out.2.1]
  rw [← HW2.out.2.2.1]
  obtain ⟨-, c0, c1, c2⟩ := HK.out W2 (Below.refl _ _)
  go_cut [3] (fun s3 wx => ∃ pb u1 u2 u3 ps qs, s3 = .pointer (some ⟨pb, 0, none⟩) ∧ CopyS w wx pb P u1 u2 u3 ps qs 0 0 ∧ Below W2.heap.size W2 wx ∧ W2.heap.size ≤ pb)
  case first =>
    go_region_held3 (fun wx => Below W2.heap.size W2 wx ∧ wx.cell? ⟨bx, 0, none⟩ = some v1 ∧ wx.cell? ⟨bx, 1, none⟩ = some v2 ∧ wx.cell? ⟨bx, 2, none⟩ = some v3)
      ((refine HK.out _ ?_; repeat (with_reducible first | assumption | exact Below.refl _ _ | refine Below.drew ?_ | refine below_set ?_ ?_ | refine below_alC ?_ _ | refine hbS _ ?_ | refine hbF _ ?_ | refine hbT _ ?_)))
      ((first
        | (go_at_call 57; refine (KS.out _ ?_).mono ?_; (repeat (with_reducible first | assumption | exact Below.refl _ _ | refine Below.drew ?_ | refine below_alC ?_ _ | refine hbF _ ?_ | refine hbT _ ?_)); rintro e wS ⟨a1, d1, rfl, hoS, hcS, hfS, hzS, hbS⟩; (first | (have l2S : W2.heap.size < wS.heap.size := hzS _ l2F) | (have l2S : W2.heap.size < wS.heap.size := hzS _ l2T) | (have l2S : W2.heap.size < wS.heap.size := hzS _ (lt_alloc W2 _)) | skip); (first | (have lFS : wF.heap.size < wS.heap.size := hzS _ lFT) | (have lFS : wF.heap.size < wS.heap.size := hzS _ (lt_alloc wF _)) | skip); (first | (have lTS : wT.heap.size < wS.heap.size := hzS _ lTF) | (have lTS : wT.heap.size < wS.heap.size := hzS _ (lt_alloc wT _)) | skip))
        | (go_at_call 58; refine (KF.out _ ?_).mono ?_; (repeat (with_reducible first | assumption | exact Below.refl _ _ | refine Below.drew ?_ | refine below_alC ?_ _ | refine hbS _ ?_ | refine hbT _ ?_)); rintro e wF ⟨a2, d2, ps, rfl, hoF, hpF, hcF, hfF, hzF, hbF⟩; (first | (have l2F : W2.heap.size < wF.heap.size := hzF _ l2S) | (have l2F : W2.heap.size < wF.heap.size := hzF _ l2T) | (have l2F : W2.heap.size < wF.heap.size := hzF _ (lt_alloc W2 _)) | skip); (first | (have lSF : wS.heap.size < wF.heap.size := hzF _ lST) | (have lSF : wS.heap.size < wF.heap.size := hzF _ (lt_alloc wS _)) | skip); (first | (have lTF : wT.heap.size < wF.heap.size := hzF _ lTS) | (have lTF : wT.heap.size < wF.heap.size := hzF _ (lt_alloc wT _)) | skip))
        | (go_at_call 59; refine (KT.out _ ?_).mono ?_; (repeat (with_reducible first | assumption | exact Below.refl _ _ | refine Below.drew ?_ | refine below_alC ?_ _ | refine hbS _ ?_ | refine hbF _ ?_)); rintro e wT ⟨a3, d3, qs, rfl, hoT, hpT, hcT, hfT, hzT, hbT⟩; (first | (have l2T : W2.heap.size < wT.heap.size := hzT _ l2S) | (have l2T : W2.heap.size < wT.heap.size := hzT _ l2F) | (have l2T : W2.heap.size < wT.heap.size := hzT _ (lt_alloc W2 _)) | skip); (first | (have lST : wS.heap.size < wT.heap.size := hzT _ lSF) | (have lST : wS.heap.size < wT.heap.size := hzT _ (lt_alloc wS _)) | skip); (first | (have lFT : wF.heap.size < wT.heap.size := hzT _ lFS) | (have lFT : wF.heap.size < wT.heap.size := hzT _ (lt_alloc wF _)) | skip))))
    all_goals
      go_wp2_with fail
      go_meet
      have hWS : Below W2.heap.size W2 wS := by repeat (with_reducible first | exact Below.refl _ _ | refine Below.drew ?_ | refine below_alC ?_ _ | refine hbS _ ?_)
      have hWF : Below W2.heap.size W2 wF := by repeat (with_reducible first | exact Below.refl _ _ | refine Below.drew ?_ | refine below_alC ?_ _ | refine hbF _ ?_ | refine hbS _ ?_)
      have hWT : Below W2.heap.size W2 wT := by repeat (with_reducible first | exact Below.refl _ _ | refine Below.drew ?_ | refine below_alC ?_ _ | refine hbT _ ?_ | refine hbF _ ?_ | refine hbS _ ?_)
      have hTT : Below w.heap.size w wT := HW2.out.1.trans (hWT.mono HW2.out.1.size)
      have hBS : Below w.heap.size w wS := HW2.out.1.trans (hWS.mono HW2.out.1.size)
      have hBF : Below w.heap.size w wF := HW2.out.1.trans (hWF.mono HW2.out.1.size)
      have o1 := hoS wT (by repeat (with_reducible first | exact Below.refl _ _ | refine Below.drew ?_ | refine below_alC ?_ _ | refine hbT _ ?_ | refine hbF _ ?_))
      have o2 := hoF wT (by repeat (with_reducible first | exact Below.refl _ _ | refine Below.drew ?_ | refine below_alC ?_ _ | refine hbT _ ?_))
      have o3 := hoT wT (Below.refl _ _)
      first
        | exact ⟨wT.heap.size, _, _, _, ps, qs, rfl, copy_new hTT o1 o2 o3 hpF.1 hpF.2 hpT.1 hpT.2, below_alC hWT _, hWT.size⟩
        | exact ⟨wF.heap.size, _, _, _, ps, qs, rfl, copy_set hTT (Below.size (hBF)) (block_keep (hbT _ (Below.refl _ _)) (heap_new _ _)) o1 o2 o3 hpF.1 hpF.2 hpT.1 hpT.2, ((hWT.setCell hWF.size _).setCell hWF.size _).setCell hWF.size _, hWF.size⟩
        | exact ⟨wS.heap.size, _, _, _, ps, qs, rfl, copy_set hTT (Below.size (hBS)) (block_keep (hbT _ (Below.refl _ _)) (block_keep (hbF _ (Below.refl _ _)) (heap_new _ _))) o1 o2 o3 hpF.1 hpF.2 hpT.1 hpT.2, ((hWT.setCell hWS.size _).setCell hWS.size _).setCell hWS.size _, hWS.size⟩
        | exact ⟨W2.heap.size, _, _, _, ps, qs, rfl, copy_set hTT HW2.out.1.size (block_keep (hbT _ (Below.refl _ _)) (block_keep (hbF _ (Below.refl _ _)) (block_keep (hbS _ (Below.refl _ _)) (heap_new _ _)))) o1 o2 o3 hpF.1 hpF.2 hpT.1 hpT.2, ((hWT.setCell (Nat.le_refl _) _).setCell (Nat.le_refl _) _).setCell (Nat.le_refl _) _, (Nat.le_refl _)⟩
  case rest =>
  obtain ⟨pb, u1, u2, u3, ps0, qs0, rfl, hC0, hW6, hWp⟩ := hcut
  obtain ⟨w6, rfl⟩ : ∃ z, z = wc := ⟨_, rfl⟩
  obtain ⟨sa, sc, hu2⟩ := owns_form hC0.o2
  obtain ⟨sa3, sc3, hu3⟩ := owns_form hC0.o3
  obtain ⟨nn, hnn⟩ : ∃ z, z = P.funs.length := ⟨_, rfl⟩
  obtain ⟨nn3, hnn3⟩ : ∃ z, z = P.stmts.length := ⟨_, rfl⟩
  rw [← hnn] at hu2
  rw [← hnn3] at hu3
  subst hu2 hu3
  have HNN : Hid (nn = P.funs.length ∧ nn3 = P.stmts.length ∧ SmallP P) := ⟨hnn, hnn3, HW2.out.2.2.2.1⟩
  have t1 : w6.cell? ⟨pb, 1, none⟩ = some (.slice sa nn sc) := by rw [Lib.cell_of_heap hC0.blk]; rfl
  have hnnb : nn ≤ 100000 := by rw [HNN.out.1]; exact HNN.out.2.2.2.1
  have hnnb3 : nn3 ≤ 100000 := by rw [HNN.out.2.1]; exact HNN.out.2.2.2.2.1
  have HC0 : Hid (CopyS w w6 pb P u1 (.slice sa nn sc) (.slice sa3 nn3 sc3) ps0 qs0 0 0 ∧ w6.heap[bx + 1]? = some (.cells #[.slice none 0 0, .slice none 0 0, .slice none 0 0] TPgS (0, 0)) ∧ bx + 2 ≤ pb ∧ w.heap.size ≤ bx + 1) := ⟨hC0, block_keep hW6 HRB.out.1, by rw [← HRB.out.2]; exact hWp, by rw [HW2.out.2.2.1]; exact Nat.le_succ _⟩
  clear hC0 hnn hnn3 c0 c1 c2 HK KS KF KT HW2 hW6 hWp HRB
  go_wp2_with fail
  clear t1
  go_loopw [19] (fun t wr => ∃ (k : Nat) (rs : List Value), k ≤ nn ∧ t = .int .i64 k ∧ CopyS w wr pb P u1 (.slice sa nn sc) (.slice sa3 nn3 sc3) rs qs0 k 0 ∧ wr.heap[bx + 1]? = some (.cells #[.slice none 0 0, .slice none 0 0, .slice none 0 0] TPgS (0, 0))) (fun t _ => (nn - intOf t).toNat)
  case atStart => exact ⟨0, _, Nat.zero_le _, rfl, HC0.out.1, HC0.out.2.1⟩
  case round =>
    obtain ⟨k, rs, hk, rfl, hC, hrb⟩ := hrel
    by_cases hlt : k < nn
    · have hkl : k < P.funs.length := by rw [← HNN.out.1]; exact hlt
      have hki : (k : Int) < nn := by omega
      obtain ⟨g, cap, cur, hv, hgB, hgh, hnc, hcm, hcs, htk⟩ : ∃ g cap cur, (Value.slice sa nn sc) = .slice (some ⟨g, 0, none⟩) P.funs.length cap ∧ w.heap.size ≤ g ∧ wr.heap[g]? = some (.cells cur 60 (0, 0)) ∧ P.funs.length ≤ cap ∧ cap ≤ maxLen ∧ cur.size = cap * 3 ∧ cur.toList.take (P.funs.length * 3) = (List.zipWith funCells P.funs rs).flatten := by
        rcases hC.o2.2 with ⟨_, q⟩ | q
        · omega
        · exact q
      injection hv with hsa hsb hsc
      clear hsb hsc
      subst hsa
      have hxc : wr.cell? ⟨g, k * 3 + 1, none⟩ = some (rs.getD k default) := by
        have hlen : ∀ l ∈ List.zipWith funCells P.funs rs, l.length = 3 := fun l hl => by
          obtain ⟨i, hi, rfl⟩ := List.mem_iff_getElem.1 hl
          simp [funCells]
        have h1 := flatten_at _ 3 hlen k 1 _ (zip_at funCells P.funs rs hC.l2 k hkl) (by decide)
        rw [← htk, List.getElem?_take, if_pos (by omega)] at h1
        rw [Lib.cell_of_heap hgh]
        simpa [funCells] using h1
      have hcap := hC.c2 k hkl (Nat.le_refl _)
      obtain ⟨-, pa, pc, hpv, -⟩ := hcap
      have hcap := hC.c2 k hkl (Nat.le_refl _)
      obtain ⟨pm, hpm⟩ : ∃ z, z = (P.funs.getD k default).params.length := ⟨_, rfl⟩
      rw [← hpm] at hpv
      have hpml : pm ≤ 1000000 := by
        have := HNN.out.2.2.2.2.2.1 (P.funs.getD k default) (by simp [List.getD, hkl])
        omega
      rw [hpv] at hxc hcap
      obtain ⟨nc, hnc2⟩ : ∃ z, z = sc := ⟨_, rfl⟩
      have t1 : wr.cell? ⟨pb, 1, none⟩ = some (.slice (some ⟨g, 0, none⟩) nn nc) := by rw [hnc2, Lib.cell_of_heap hC.blk]; rfl
      have hfz : wr.frozen? ⟨g, k * 3 + 1, none⟩ = false := Lib.frozen_of_heap hgh _
      have KI : Hid (∀ wx, Below wr.heap.size wr wx → Calls Tryz.prog 33 #[.slice pa pm pc] wx fun e w7 => ∃ qa qc, e = .returned (.slice qa pm qc) ∧ w7.cell? ⟨pb, 1, none⟩ = some (.slice (some ⟨g, 0, none⟩) nn nc) ∧ w7.cell? ⟨g, k * 3 + 1, none⟩ = some (.slice pa pm pc) ∧ w7.frozen? ⟨g, k * 3 + 1, none⟩ = false ∧
          Hid ((w7.setCell ⟨g, k * 3 + 1, none⟩ (.slice qa pm qc)).cell? ⟨pb, 1, none⟩ = some (.slice (some ⟨g, 0, none⟩) nn nc) ∧ (CopyS w (w7.setCell ⟨g, k * 3 + 1, none⟩ (.slice qa pm qc)) pb P u1 (.slice (some ⟨g, 0, none⟩) nn sc) (.slice sa3 nn3 sc3) (rs.set k (.slice qa pm qc)) qs0 (k + 1) 0) ∧ (w7.setCell ⟨g, k * 3 + 1, none⟩ (.slice qa pm qc)).heap[bx + 1]? = some (.cells #[.slice none 0 0, .slice none 0 0, .slice none 0 0] TPgS (0, 0)))) := fun wx hb => by
        have hwx := hC.blw.trans (hb.mono hC.blw.size)
        refine (cloneR_any (P.funs.getD k default).params (.slice pa pm pc) wx (by omega) (hcap.below hwx).1).mono ?_
        rintro e w7 ⟨qa, qc, rfl, ho, hb7⟩
        rw [← hpm] at ho ⊢
        have hb8 := hb.trans (hb7.mono hb.size)
        have hC7 := (hC.below hb8).setFun hkl (.slice qa pm qc) (by rw [← hpm]; exact owns_mono ho hwx.size)
        refine ⟨qa, qc, rfl, cell_keep hb8 t1, cell_keep hb8 hxc, Lib.frozen_of_heap (block_keep hb8 hgh) _, ?_, hC7, kept_setCell (i := k * 3 + 1) (block_keep hb8 hgh) (.slice qa pm qc) _ _ _ _ (block_keep hb8 hrb) (by decide)⟩
        rw [Lib.cell_of_heap hC7.blk, hnc2]; rfl
      clear hC hkl hgB hgh hnc hcm hcs htk hcap hpv hpm hpml hnc2 hrb
      go_upto_region 5 with fail
      refine wp_region_noPanic ?_
      refine wp_region_held_drew (S := fun wx => wx.cell? ⟨pb, 1, none⟩ = some (.slice (some ⟨g, 0, none⟩) nn nc)) (by kernel_rfl) t1 (fun hHeld => ?_)
      refine wpAnyH_take (i := 0) (oi := _) (v := .pointer (some ⟨pb, 1, none⟩)) rfl (by kernel_rfl) (by kernel_rfl) (by kernel_rfl) (fun _ _ _ h => h) (Or.inl ⟨by rfl, ?_⟩) hHeld ?_
      · (intro w hSw; go_simp)
      try simp only [Act.put, List.setIfInBounds_toArray]
      refine wpAnyH_take (i := 1) (oi := _) (v := .slice (some ⟨g, 0, none⟩) nn nc) rfl (by kernel_rfl) (by kernel_rfl) (by kernel_rfl) (fun _ _ _ h => h) (Or.inl ⟨by rfl, ?_⟩) hHeld ?_
      · (intro w hSw; go_simp)
      try simp only [Act.put]
      refine wpAnyH_take (i := 2) (oi := _) (v := .int .i64 (k : Int)) rfl (by kernel_rfl) (by kernel_rfl) (by kernel_rfl) (fun _ _ _ h => h) (Or.inl ⟨by rfl, ?_⟩) hHeld ?_
      · (intro w hSw; go_simp)
      try simp only [Act.put]
      refine wpAnyH_take (i := 3) (oi := _) (v := .pointer (some ⟨pb, 1, none⟩)) rfl (by kernel_rfl) (by kernel_rfl) (by kernel_rfl) (fun _ _ _ h => h) (Or.inl ⟨by rfl, ?_⟩) hHeld ?_
      · (intro w hSw; go_simp)
      try simp only [Act.put]
      refine wpAnyH_take (i := 4) (oi := _) (v := .slice (some ⟨g, 0, none⟩) nn nc) rfl (by kernel_rfl) (by kernel_rfl) (by kernel_rfl) (fun _ _ _ h => h) (Or.inl ⟨by rfl, ?_⟩) hHeld ?_
      · (intro w hSw; go_simp)
      try simp only [Act.put]
      refine wpAnyH_take (i := 5) (oi := _) (v := .int .i64 (k : Int)) rfl (by kernel_rfl) (by kernel_rfl) (by kernel_rfl) (fun _ _ _ h => h) (Or.inl ⟨by rfl, ?_⟩) hHeld ?_
      · (intro w hSw; go_simp)
      try simp only [Act.put]
      refine wpAnyH_take (i := 6) (oi := _) (v := .pointer (some ⟨g, k * 3, none⟩)) rfl (by kernel_rfl) (by kernel_rfl) (by kernel_rfl) (fun _ _ _ h => h) (Or.inl ⟨by rfl, ?_⟩) hHeld ?_
      · (intro w hSw; go_simp)
      try simp only [Act.put]
      refine wpAnyH_take (i := 7) (oi := _) (v := .pointer (some ⟨g, k * 3 + 1, none⟩)) rfl (by kernel_rfl) (by kernel_rfl) (by kernel_rfl) (fun _ _ _ h => h) (Or.inl ⟨by rfl, ?_⟩) hHeld ?_
      · (intro w hSw; go_simp)
      try simp only [Act.put]
      refine wpAnyH_ready (rs := [8]) (by kernel_rfl) (by simp) ?_
      refine AllReadyH.cons (o := _) rfl (fun K hK => ?_) AllReadyH.nil
      go_simp
      refine hK.out _ _ t1 (fun hHeld => ?_)
      clear hK K
      try simp only [Act.put, List.setIfInBounds_toArray, List.set_cons_zero, List.set_cons_succ]
      refine wpAnyH_ready (rs := [9]) (by kernel_rfl) (by simp) ?_
      refine AllReadyH.cons (o := _) rfl (fun K hK => ?_) AllReadyH.nil
      go_simp
      refine (KI.out _ (by repeat (with_reducible first | exact Below.refl _ _ | refine Below.drew ?_))).mono ?_
      rintro e w7 ⟨qa, qc, rfl, hS7, hx7, hf7, HN⟩
      go_wp2_with fail
      refine hK.out _ _ hS7 (fun hHeld => ?_)
      clear hK K
      try simp only [Act.put, List.setIfInBounds_toArray, List.set_cons_zero, List.set_cons_succ]
      refine wpAnyH_take (i := 10) (oi := _) (v := .pointer (some ⟨g, k * 3, none⟩)) rfl (by kernel_rfl) (by kernel_rfl) (by kernel_rfl) (fun _ _ _ h => h) (Or.inl ⟨by rfl, ?_⟩) hHeld ?_
      · (intro w hSw; go_simp)
      try simp only [Act.put, List.setIfInBounds_toArray]
      refine wpAnyH_take (i := 11) (oi := _) (v := .pointer (some ⟨g, k * 3 + 1, none⟩)) rfl (by kernel_rfl) (by kernel_rfl) (by kernel_rfl) (fun _ _ _ h => h) (Or.inl ⟨by rfl, ?_⟩) hHeld ?_
      · (intro w hSw; go_simp)
      try simp only [Act.put]
      refine wpAnyH_ready (rs := [12]) (by kernel_rfl) (by simp) ?_
      refine AllReadyH.cons (o := _) rfl (fun K hK => ?_) AllReadyH.nil
      go_simp
      refine hK.out _ _ HN.out.1 (fun hHeld => ?_)
      clear hK K
      try simp only [Act.put, List.setIfInBounds_toArray, List.set_cons_zero, List.set_cons_succ]
      refine wpAnyH_done (by kernel_rfl) ?_ _
      refine NoPanic.normal ?_
      go_wp2_with fail
      go_roundw
      case rel => exact ⟨k + 1, _, hlt, by go_num, HN.out.2⟩
      case measure => simp [intOf]; omega
    · have hkn : k = nn := by omega
      subst hkn
      obtain ⟨w8, rfl⟩ : ∃ z, z = wr := ⟨_, rfl⟩
      obtain ⟨ps, rfl⟩ : ∃ z, z = rs := ⟨_, rfl⟩
      have t2 : w8.cell? ⟨pb, 2, none⟩ = some (.slice sa3 nn3 sc3) := by rw [Lib.cell_of_heap hC.blk]; rfl
      have HC1 : Hid (CopyS w w8 pb P u1 (.slice sa k sc) (.slice sa3 nn3 sc3) ps qs0 k 0 ∧ w8.heap[bx + 1]? = some (.cells #[.slice none 0 0, .slice none 0 0, .slice none 0 0] TPgS (0, 0))) := ⟨hC, hrb⟩
      obtain ⟨nf, hnf⟩ : ∃ z, z = k := ⟨_, rfl⟩
      rw [← hnf] at HC1 HNN
      have HNF : Hid (nf = k) := hnf
      clear hC hrb hnf
      go_wp2_with fail
      clear t2
      go_loopw [38] (fun t wr => ∃ (k : Nat) (rs : List Value), k ≤ nn3 ∧ t = .int .i64 k ∧ CopyS w wr pb P u1 (.slice sa nf sc) (.slice sa3 nn3 sc3) ps rs nf k ∧ wr.heap[bx + 1]? = some (.cells #[.slice none 0 0, .slice none 0 0, .slice none 0 0] TPgS (0, 0))) (fun t _ => (nn3 - intOf t).toNat)
      case atStart => exact ⟨0, _, Nat.zero_le _, rfl, HC1.out.1, HC1.out.2⟩
      case round =>
        obtain ⟨k, rs, hk, rfl, hC, hrb⟩ := hrel
        by_cases hlt : k < nn3
        · have hkl : k < P.stmts.length := by rw [← HNN.out.2.1]; exact hlt
          have hki : (k : Int) < nn3 := by omega
          obtain ⟨g, cap, cur, hv, hgB, hgh, hnc, hcm, hcs, htk⟩ : ∃ g cap cur, (Value.slice sa3 nn3 sc3) = .slice (some ⟨g, 0, none⟩) P.stmts.length cap ∧ w.heap.size ≤ g ∧ wr.heap[g]? = some (.cells cur 45 (0, 0)) ∧ P.stmts.length ≤ cap ∧ cap ≤ maxLen ∧ cur.size = cap * 4 ∧ cur.toList.take (P.stmts.length * 4) = (List.zipWith stmtCells P.stmts rs).flatten := by
            rcases hC.o3.2 with ⟨_, q⟩ | q
            · omega
            · exact q
          injection hv with hsa hsb hsc
          clear hsb hsc
          subst hsa
          have hxc : wr.cell? ⟨g, k * 4 + 3, none⟩ = some (rs.getD k default) := by
            have hlen : ∀ l ∈ List.zipWith stmtCells P.stmts rs, l.length = 4 := fun l hl => by
              obtain ⟨i, hi, rfl⟩ := List.mem_iff_getElem.1 hl
              simp [stmtCells]
            have h1 := flatten_at _ 4 hlen k 3 _ (zip_at stmtCells P.stmts rs hC.l3 k hkl) (by decide)
            rw [← htk, List.getElem?_take, if_pos (by omega)] at h1
            rw [Lib.cell_of_heap hgh]
            simpa [stmtCells] using h1
          have hcap := hC.c3 k hkl (Nat.le_refl _)
          obtain ⟨-, pa, pc, hpv, -⟩ := hcap
          have hcap := hC.c3 k hkl (Nat.le_refl _)
          obtain ⟨pm, hpm⟩ : ∃ z, z = (P.stmts.getD k default).args.length := ⟨_, rfl⟩
          rw [← hpm] at hpv
          have hpml : pm ≤ 1000000 := by
            have := HNN.out.2.2.2.2.2.2 (P.stmts.getD k default) (by simp [List.getD, hkl])
            omega
          rw [hpv] at hxc hcap
          obtain ⟨nc, hnc2⟩ : ∃ z, z = sc3 := ⟨_, rfl⟩
          have t1 : wr.cell? ⟨pb, 2, none⟩ = some (.slice (some ⟨g, 0, none⟩) nn3 nc) := by rw [hnc2, Lib.cell_of_heap hC.blk]; rfl
          have hfz : wr.frozen? ⟨g, k * 4 + 3, none⟩ = false := Lib.frozen_of_heap hgh _
          have KI : Hid (∀ wx, Below wr.heap.size wr wx → Calls Tryz.prog 33 #[.slice pa pm pc] wx fun e w7 => ∃ qa qc, e = .returned (.slice qa pm qc) ∧ w7.cell? ⟨pb, 2, none⟩ = some (.slice (some ⟨g, 0, none⟩) nn3 nc) ∧ w7.cell? ⟨g, k * 4 + 3, none⟩ = some (.slice pa pm pc) ∧ w7.frozen? ⟨g, k * 4 + 3, none⟩ = false ∧
              Hid ((w7.setCell ⟨g, k * 4 + 3, none⟩ (.slice qa pm qc)).cell? ⟨pb, 2, none⟩ = some (.slice (some ⟨g, 0, none⟩) nn3 nc) ∧ (CopyS w (w7.setCell ⟨g, k * 4 + 3, none⟩ (.slice qa pm qc)) pb P u1 (.slice sa nf sc) (.slice (some ⟨g, 0, none⟩) nn3 sc3) ps (rs.set k (.slice qa pm qc)) nf (k + 1)) ∧ (w7.setCell ⟨g, k * 4 + 3, none⟩ (.slice qa pm qc)).heap[bx + 1]? = some (.cells #[.slice none 0 0, .slice none 0 0, .slice none 0 0] TPgS (0, 0)))) := fun wx hb => by
            have hwx := hC.blw.trans (hb.mono hC.blw.size)
            refine (cloneR_any (P.stmts.getD k default).args (.slice pa pm pc) wx (by omega) (hcap.below hwx).1).mono ?_
            rintro e w7 ⟨qa, qc, rfl, ho, hb7⟩
            rw [← hpm] at ho ⊢
            have hb8 := hb.trans (hb7.mono hb.size)
            have hC7 := (hC.below hb8).setStmt hkl (.slice qa pm qc) (by rw [← hpm]; exact owns_mono ho hwx.size)
            refine ⟨qa, qc, rfl, cell_keep hb8 t1, cell_keep hb8 hxc, Lib.frozen_of_heap (block_keep hb8 hgh) _, ?_, hC7, kept_setCell (i := k * 4 + 3) (block_keep hb8 hgh) (.slice qa pm qc) _ _ _ _ (block_keep hb8 hrb) (by decide)⟩
            rw [Lib.cell_of_heap hC7.blk, hnc2]; rfl
          clear hC hkl hgB hgh hnc hcm hcs htk hcap hpv hpm hpml hnc2 hrb
          go_upto_region 10 with fail
          refine wp_region_noPanic ?_
          refine wp_region_held_drew (S := fun wx => wx.cell? ⟨pb, 2, none⟩ = some (.slice (some ⟨g, 0, none⟩) nn3 nc)) (by kernel_rfl) t1 (fun hHeld => ?_)
          refine wpAnyH_take (i := 0) (oi := _) (v := .pointer (some ⟨pb, 2, none⟩)) rfl (by kernel_rfl) (by kernel_rfl) (by kernel_rfl) (fun _ _ _ h => h) (Or.inl ⟨by rfl, ?_⟩) hHeld ?_
          · (intro w hSw; go_simp)
          try simp only [Act.put, List.setIfInBounds_toArray]
          refine wpAnyH_take (i := 1) (oi := _) (v := .slice (some ⟨g, 0, none⟩) nn3 nc) rfl (by kernel_rfl) (by kernel_rfl) (by kernel_rfl) (fun _ _ _ h => h) (Or.inl ⟨by rfl, ?_⟩) hHeld ?_
          · (intro w hSw; go_simp)
          try simp only [Act.put]
          refine wpAnyH_take (i := 2) (oi := _) (v := .int .i64 (k : Int)) rfl (by kernel_rfl) (by kernel_rfl) (by kernel_rfl) (fun _ _ _ h => h) (Or.inl ⟨by rfl, ?_⟩) hHeld ?_
          · (intro w hSw; go_simp)
          try simp only [Act.put]
          refine wpAnyH_take (i := 3) (oi := _) (v := .pointer (some ⟨pb, 2, none⟩)) rfl (by kernel_rfl) (by kernel_rfl) (by kernel_rfl) (fun _ _ _ h => h) (Or.inl ⟨by rfl, ?_⟩) hHeld ?_
          · (intro w hSw; go_simp)
          try simp only [Act.put]
          refine wpAnyH_take (i := 4) (oi := _) (v := .slice (some ⟨g, 0, none⟩) nn3 nc) rfl (by kernel_rfl) (by kernel_rfl) (by kernel_rfl) (fun _ _ _ h => h) (Or.inl ⟨by rfl, ?_⟩) hHeld ?_
          · (intro w hSw; go_simp)
          try simp only [Act.put]
          refine wpAnyH_take (i := 5) (oi := _) (v := .int .i64 (k : Int)) rfl (by kernel_rfl) (by kernel_rfl) (by kernel_rfl) (fun _ _ _ h => h) (Or.inl ⟨by rfl, ?_⟩) hHeld ?_
          · (intro w hSw; go_simp)
          try simp only [Act.put]
          refine wpAnyH_take (i := 6) (oi := _) (v := .pointer (some ⟨g, k * 4, none⟩)) rfl (by kernel_rfl) (by kernel_rfl) (by kernel_rfl) (fun _ _ _ h => h) (Or.inl ⟨by rfl, ?_⟩) hHeld ?_
          · (intro w hSw; go_simp)
          try simp only [Act.put]
          refine wpAnyH_take (i := 7) (oi := _) (v := .pointer (some ⟨g, k * 4 + 3, none⟩)) rfl (by kernel_rfl) (by kernel_rfl) (by kernel_rfl) (fun _ _ _ h => h) (Or.inl ⟨by rfl, ?_⟩) hHeld ?_
          · (intro w hSw; go_simp)
          try simp only [Act.put]
          refine wpAnyH_ready (rs := [8]) (by kernel_rfl) (by simp) ?_
          refine AllReadyH.cons (o := _) rfl (fun K hK => ?_) AllReadyH.nil
          go_simp
          refine hK.out _ _ t1 (fun hHeld => ?_)
          clear hK K
          try simp only [Act.put, List.setIfInBounds_toArray, List.set_cons_zero, List.set_cons_succ]
          refine wpAnyH_ready (rs := [9]) (by kernel_rfl) (by simp) ?_
          refine AllReadyH.cons (o := _) rfl (fun K hK => ?_) AllReadyH.nil
          go_simp
          refine (KI.out _ (by repeat (with_reducible first | exact Below.refl _ _ | refine Below.drew ?_))).mono ?_
          rintro e w7 ⟨qa, qc, rfl, hS7, hx7, hf7, HN⟩
          go_wp2_with fail
          refine hK.out _ _ hS7 (fun hHeld => ?_)
          clear hK K
          try simp only [Act.put, List.setIfInBounds_toArray, List.set_cons_zero, List.set_cons_succ]
          refine wpAnyH_take (i := 10) (oi := _) (v := .pointer (some ⟨g, k * 4, none⟩)) rfl (by kernel_rfl) (by kernel_rfl) (by kernel_rfl) (fun _ _ _ h => h) (Or.inl ⟨by rfl, ?_⟩) hHeld ?_
          · (intro w hSw; go_simp)
          try simp only [Act.put, List.setIfInBounds_toArray]
          refine wpAnyH_take (i := 11) (oi := _) (v := .pointer (some ⟨g, k * 4 + 3, none⟩)) rfl (by kernel_rfl) (by kernel_rfl) (by kernel_rfl) (fun _ _ _ h => h) (Or.inl ⟨by rfl, ?_⟩) hHeld ?_
          · (intro w hSw; go_simp)
          try simp only [Act.put]
          refine wpAnyH_ready (rs := [12]) (by kernel_rfl) (by simp) ?_
          refine AllReadyH.cons (o := _) rfl (fun K hK => ?_) AllReadyH.nil
          go_simp
          refine hK.out _ _ HN.out.1 (fun hHeld => ?_)
          clear hK K
          try simp only [Act.put, List.setIfInBounds_toArray, List.set_cons_zero, List.set_cons_succ]
          refine wpAnyH_done (by kernel_rfl) ?_ _
          refine NoPanic.normal ?_
          go_wp2_with fail
          go_roundw
          case rel => exact ⟨k + 1, _, hlt, by go_num, HN.out.2⟩
          case measure => simp [intOf]; omega
        · have hkn : k = nn3 := by omega
          subst hkn
          obtain ⟨ua, uc, hu1⟩ := owns_form hC.o1
          obtain ⟨nv, hnv⟩ : ∃ z, z = P.vars.length := ⟨_, rfl⟩
          rw [← hnv] at hu1
          subst hu1
          clear hnv
          have t0 : wr.cell? ⟨pb, 0, none⟩ = some (.slice ua nv uc) := by rw [Lib.cell_of_heap hC.blk]; rfl
          have t1 : wr.cell? ⟨pb, 1, none⟩ = some (.slice sa nf sc) := by rw [Lib.cell_of_heap hC.blk]; rfl
          have t2 : wr.cell? ⟨pb, 2, none⟩ = some (.slice sa3 k sc3) := by rw [Lib.cell_of_heap hC.blk]; rfl
          have r0 : wr.cell? ⟨bx + 1, 0, none⟩ = some (.slice none 0 0) := by rw [Lib.cell_of_heap hrb]; rfl
          have r1 : wr.cell? ⟨bx + 1, 1, none⟩ = some (.slice none 0 0) := by rw [Lib.cell_of_heap hrb]; rfl
          have r2 : wr.cell? ⟨bx + 1, 2, none⟩ = some (.slice none 0 0) := by rw [Lib.cell_of_heap hrb]; rfl
          have f0 : wr.frozen? ⟨bx + 1, 0, none⟩ = false := Lib.frozen_of_heap hrb 0
          have f1 : wr.frozen? ⟨bx + 1, 1, none⟩ = false := Lib.frozen_of_heap hrb 1
          have f2 : wr.frozen? ⟨bx + 1, 2, none⟩ = false := Lib.frozen_of_heap hrb 2
          have HE : Hid (CopyS w (((wr.setCell ⟨bx + 1, 0, none⟩ (.slice ua nv uc)).setCell ⟨bx + 1, 1, none⟩ (.slice sa nf sc)).setCell ⟨bx + 1, 2, none⟩ (.slice sa3 k sc3)) pb P (.slice ua nv uc) (.slice sa nf sc) (.slice sa3 k sc3) ps rs P.funs.length P.stmts.length) := by
            have hp := HC0.out.2.2
            have := hC.other3 hrb (by omega) hp.2 (.slice ua nv uc) (.slice sa nf sc) (.slice sa3 k sc3)
            show CopyS _ _ _ _ _ _ _ _ _ _ _
            rw [← HNN.out.1, ← HNN.out.2.1]
            exact this
          obtain ⟨w9, hw9⟩ : ∃ z, z = (((wr.setCell ⟨bx + 1, 0, none⟩ (.slice ua nv uc)).setCell ⟨bx + 1, 1, none⟩ (.slice sa nf sc)).setCell ⟨bx + 1, 2, none⟩ (.slice sa3 k sc3)) := ⟨_, rfl⟩
          have h9 : w9.heap[bx + 1]? = some (.cells #[.slice ua nv uc, .slice sa nf sc, .slice sa3 k sc3] TPgS (0, 0)) := by
            rw [hw9]
            exact set_block _ _ _ _ _ _ (set_block _ _ _ _ _ _ (set_block _ _ _ _ _ _ hrb _) _) _
          have z0 : w9.cell? ⟨bx + 1, 0, none⟩ = some (.slice ua nv uc) := by rw [Lib.cell_of_heap h9]; rfl
          have z1 : w9.cell? ⟨bx + 1, 1, none⟩ = some (.slice sa nf sc) := by rw [Lib.cell_of_heap h9]; rfl
          have z2 : w9.cell? ⟨bx + 1, 2, none⟩ = some (.slice sa3 k sc3) := by rw [Lib.cell_of_heap h9]; rfl
          have H9 : Hid (w9 = (((wr.setCell ⟨bx + 1, 0, none⟩ (.slice ua nv uc)).setCell ⟨bx + 1, 1, none⟩ (.slice sa nf sc)).setCell ⟨bx + 1, 2, none⟩ (.slice sa3 k sc3))) := hw9
          rw [← hw9] at HE
          clear hC hrb h9 hw9
          go_wp2_with fail
          rw [← H9.out]
          refine bodyPost_ret (v := .agg #[.slice ua nv uc, .slice sa nf sc, .slice sa3 k sc3]) (by simp [results, Tryz.results26, go_sem, z0, z1, z2]) rfl ?_
          exact ⟨pb, _, _, _, ps, rs, rfl, HE.out⟩
end Go.Proofs.YtglonlpfnllocaaGreatDoor
