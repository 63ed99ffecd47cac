/-
  A program is read as it was written: statements, and the whole. No program of Go in this text.
-/
import Derived.Test.YtimmkenmahagjaaGreatDoorPR
namespace Go.Proofs.YtimmkenmahagjaaGreatDoor
open Go

/-- A line whose left part is a name and whose right part is told. -/
theorem read_right {P : ProgD} (hR : Right P) (Q : List StmtD) (s : StmtD) (r : Bs) (hx : varB P s.x = true) (y : Bs) (l : List Bs)
    (hr : rightD r = (⟨s.kind, [], y, l⟩, true)) (hy : sentY P ⟨s.kind, nameOf P s.x, y, l⟩ = s.y) (hy1 : (s.y == -1) = false) (hl : l.map (idx P.vars) = s.args) (ha : s.args.contains (-1) = false) :
    readLineD ⟨P.vars, P.funs, Q⟩ (nameOf P s.x ++ eqs ++ r) = (⟨P.vars, P.funs, Q ++ [s]⟩, none) := by
  have hn : isNm (nameOf P s.x) = true := hR.name hx
  have hc : Lib.cut (nameOf P s.x ++ eqs ++ r) eqs = (nameOf P s.x, r, true) := cut_at 32 [61, 32] _ r (isNm_not hn 32 (by decide))
  have e0 : nameOf P s.x ++ eqs ++ r = nameOf P s.x ++ 32 :: ([61, 32] ++ r) := by simp [eqs]
  unfold readLineD
  rw [e0, line_var hn, line_fn hn, if_neg (by decide), if_neg (by decide), ← e0]
  have hp : parseD (nameOf P s.x ++ eqs ++ r) = (⟨s.kind, nameOf P s.x, y, l⟩, true) := by
    unfold parseD
    rw [hc]
    have h1 : Lib.hasPrefix (nameOf P s.x) [42] = false := pre_name hn _ 42 (by decide) (by decide)
    show (if Lib.hasPrefix (nameOf P s.x) [42] = true then _ else _) = _
    rw [h1, if_neg (by decide), hr, hn]
    rfl
  have hs : sentS ⟨P.vars, P.funs, Q⟩ ⟨s.kind, nameOf P s.x, y, l⟩ = s := by
    show StmtD.mk s.kind (idx P.vars (nameOf P s.x)) (sentY P ⟨s.kind, nameOf P s.x, y, l⟩) (l.map (idx P.vars)) = s
    rw [hR.idx hx, hy, hl]
  unfold readStmtD
  rw [hp]
  show (if (!true) = true then _ else if ((sentS ⟨P.vars, P.funs, Q⟩ ⟨s.kind, nameOf P s.x, y, l⟩).x == -1 || (sentS ⟨P.vars, P.funs, Q⟩ ⟨s.kind, nameOf P s.x, y, l⟩).y == -1 || (sentS ⟨P.vars, P.funs, Q⟩ ⟨s.kind, nameOf P s.x, y, l⟩).args.contains (-1)) = true then _ else (_, none)) = _
  rw [hs, hy1, ha, ne_minus hx, if_neg (by decide), if_neg (by decide)]

theorem name_ne_new {x : Bs} (h : isNm x = true) : (x == kNew) = false := beq_eq_false_iff_ne.2 (isNm_parts h).2.2.2.2.1
theorem head_ne {x : Bs} {c d : UInt8} {t : Bs} (h : c ≠ d) : Lib.hasPrefix (c :: x) (d :: t) = false := pre_false (fun _ e => h (List.cons.inj e).1)
theorem right_addr (y : Bs) (h : isNm y = true) : rightD (38 :: y) = (⟨kAddr, [], y, []⟩, true) := by
  unfold rightD
  have e1 : ((38 :: y : Bs) == kNew) = false := beq_eq_false_iff_ne.2 fun e => absurd (List.cons.inj e).1 (by decide)
  have e2 : Lib.hasPrefix (38 :: y) [99, 97, 108, 108, 32] = false := head_ne (by decide)
  have e3 : Lib.hasPrefix (38 :: y) [38] = true := pre_self [38] y
  have e4 : Lib.trimPrefix (38 :: y) [38] = y := trim_self [38] y
  rw [e1, e2, e3, e4, h]; rfl
theorem right_load (y : Bs) (h : isNm y = true) : rightD (42 :: y) = (⟨kLoad, [], y, []⟩, true) := by
  unfold rightD
  have e1 : ((42 :: y : Bs) == kNew) = false := beq_eq_false_iff_ne.2 fun e => absurd (List.cons.inj e).1 (by decide)
  have e2 : Lib.hasPrefix (42 :: y) [99, 97, 108, 108, 32] = false := head_ne (by decide)
  have e3 : Lib.hasPrefix (42 :: y) [38] = false := head_ne (by decide)
  have e4 : Lib.hasPrefix (42 :: y) [42] = true := pre_self [42] y
  have e5 : Lib.trimPrefix (42 :: y) [42] = y := trim_self [42] y
  rw [e1, e2, e3, e4, e5, h]; rfl
theorem right_fun (y : Bs) (h : isNm y = true) : rightD ([102, 110, 32] ++ y) = (⟨kFun, [], y, []⟩, true) := by
  unfold rightD
  have e1 : (([102, 110, 32] ++ y : Bs) == kNew) = false := beq_eq_false_iff_ne.2 fun e => absurd (List.cons.inj e).1 (by decide)
  have e2 : Lib.hasPrefix ([102, 110, 32] ++ y) [99, 97, 108, 108, 32] = false := head_ne (by decide)
  have e3 : Lib.hasPrefix ([102, 110, 32] ++ y) [38] = false := head_ne (by decide)
  have e4 : Lib.hasPrefix ([102, 110, 32] ++ y) [42] = false := head_ne (by decide)
  rw [e1, e2, e3, e4, pre_self, trim_self, h]; rfl
theorem right_copy (y : Bs) (h : isNm y = true) : rightD y = (⟨kCopy, [], y, []⟩, true) := by
  unfold rightD
  have e2 : Lib.hasPrefix y [99, 97, 108, 108, 32] = false := pre_name h _ 32 (by decide) (by decide)
  have e3 : Lib.hasPrefix y [38] = false := pre_name h _ 38 (by decide) (by decide)
  have e4 : Lib.hasPrefix y [42] = false := pre_name h _ 42 (by decide) (by decide)
  have e5 : Lib.hasPrefix y [102, 110, 32] = false := pre_name h _ 32 (by decide) (by decide)
  rw [name_ne_new h, e2, e3, e4, e5, h]; rfl
theorem right_call {P : ProgD} (hR : Right P) (y : Bs) (h : isNm y = true) (l : List Int) (hl : l.all (varB P) = true) : rightD ([99, 97, 108, 108, 32] ++ (y ++ namesT P l)) = (⟨kCall, [], y, l.map (nameOf P)⟩, true) := by
  obtain ⟨q1, q2, q3, q4⟩ := list_parts hR y h l hl []
  rw [List.append_nil] at q1 q2 q3 q4
  unfold rightD
  have e1 : (([99, 97, 108, 108, 32] ++ (y ++ namesT P l) : Bs) == kNew) = false := beq_eq_false_iff_ne.2 fun e => absurd (List.cons.inj e).1 (by decide)
  rw [e1, pre_self, trim_self, q1, q2, q3, q4]; rfl

theorem kinds_cases {k : Bs} (h : kinds.contains k = true) : k = kAddr ∨ k = kCopy ∨ k = kLoad ∨ k = kStore ∨ k = kNew ∨ k = kFun ∨ k = kCall := by
  have := List.contains_iff_mem.1 h
  simpa [kinds] using this

theorem read_stmt {P : ProgD} (hR : Right P) (Q : List StmtD) (s : StmtD) (hs : stmtE P s = none) : readLineD ⟨P.vars, P.funs, Q⟩ (lineStmt P s) = (⟨P.vars, P.funs, Q ++ [s]⟩, none) := by
  obtain ⟨hk, hx, hy, ha, _, h0, hz⟩ := stmt_parts hs
  obtain ⟨k, x, y, args⟩ := s
  have hn : isNm (nameOf P x) = true := hR.name hx
  rcases kinds_cases hk with rfl | rfl | rfl | rfl | rfl | rfl | rfl
  · obtain rfl : args = [] := h0 rfl
    have hy' : varB P y = true := hy
    have e : lineStmt P ⟨kAddr, x, y, []⟩ = nameOf P x ++ eqs ++ (38 :: nameOf P y) := by
      show nameOf P x ++ [32, 61, 32, 38] ++ nameOf P y = _
      simp [eqs]
    rw [e]
    exact read_right hR Q ⟨kAddr, x, y, []⟩ _ hx (nameOf P y) [] (right_addr _ (hR.name hy')) (hR.idx hy') (ne_minus hy') rfl rfl
  · obtain rfl : args = [] := h0 rfl
    have hy' : varB P y = true := hy
    exact read_right hR Q ⟨kCopy, x, y, []⟩ _ hx (nameOf P y) [] (right_copy _ (hR.name hy')) (hR.idx hy') (ne_minus hy') rfl rfl
  · obtain rfl : args = [] := h0 rfl
    have hy' : varB P y = true := hy
    have e : lineStmt P ⟨kLoad, x, y, []⟩ = nameOf P x ++ eqs ++ (42 :: nameOf P y) := by
      show nameOf P x ++ [32, 61, 32, 42] ++ nameOf P y = _
      simp [eqs]
    rw [e]
    exact read_right hR Q ⟨kLoad, x, y, []⟩ _ hx (nameOf P y) [] (right_load _ (hR.name hy')) (hR.idx hy') (ne_minus hy') rfl rfl
  · obtain rfl : args = [] := h0 rfl
    have hy' : varB P y = true := hy
    have e : lineStmt P ⟨kStore, x, y, []⟩ = (42 :: nameOf P x) ++ eqs ++ nameOf P y := by
      show [42] ++ nameOf P x ++ [32, 61, 32] ++ nameOf P y = _
      simp [eqs]
    have hc : Lib.cut ((42 :: nameOf P x) ++ eqs ++ nameOf P y) eqs = (42 :: nameOf P x, nameOf P y, true) := cut_at 32 [61, 32] _ _ (by
      intro q
      rcases List.mem_cons.1 q with g | g
      · exact absurd g (by decide)
      · exact isNm_not hn 32 (by decide) g)
    have e1 : Lib.hasPrefix ((42 :: nameOf P x) ++ eqs ++ nameOf P y) [118, 97, 114, 32] = false := head_ne (by decide)
    have e2 : Lib.hasPrefix ((42 :: nameOf P x) ++ eqs ++ nameOf P y) [102, 110, 32] = false := head_ne (by decide)
    rw [e]
    unfold readLineD
    rw [e1, e2, if_neg (by decide), if_neg (by decide)]
    have hp : parseD ((42 :: nameOf P x) ++ eqs ++ nameOf P y) = (⟨kStore, nameOf P x, nameOf P y, []⟩, true) := by
      unfold parseD
      rw [hc]
      have h1 : Lib.hasPrefix (42 :: nameOf P x) [42] = true := pre_self [42] _
      have h2 : Lib.trimPrefix (42 :: nameOf P x) [42] = nameOf P x := trim_self [42] _
      show (if Lib.hasPrefix (42 :: nameOf P x) [42] = true then ((⟨kStore, Lib.trimPrefix (42 :: nameOf P x) [42], nameOf P y, []⟩ : SentD), isNm (Lib.trimPrefix (42 :: nameOf P x) [42]) && isNm (nameOf P y)) else _) = _
      rw [h1, h2, if_pos rfl, hn, hR.name hy']; rfl
    have hq : sentS ⟨P.vars, P.funs, Q⟩ ⟨kStore, nameOf P x, nameOf P y, []⟩ = ⟨kStore, x, y, []⟩ := by
      show StmtD.mk kStore (idx P.vars (nameOf P x)) (idx P.vars (nameOf P y)) [] = _
      rw [hR.idx hx, hR.idx hy']
    unfold readStmtD
    rw [hp]
    show (if (!true) = true then _ else if ((sentS ⟨P.vars, P.funs, Q⟩ ⟨kStore, nameOf P x, nameOf P y, []⟩).x == -1 || (sentS ⟨P.vars, P.funs, Q⟩ ⟨kStore, nameOf P x, nameOf P y, []⟩).y == -1 || (sentS ⟨P.vars, P.funs, Q⟩ ⟨kStore, nameOf P x, nameOf P y, []⟩).args.contains (-1)) = true then _ else (_, none)) = _
    rw [hq]
    show (if (!true) = true then _ else if (x == -1 || y == -1 || ([] : List Int).contains (-1)) = true then _ else (_, none)) = _
    rw [ne_minus hx, ne_minus hy']; rfl
  · obtain rfl : args = [] := h0 rfl
    obtain rfl : y = 0 := hz rfl
    have e : lineStmt P ⟨kNew, x, 0, []⟩ = nameOf P x ++ eqs ++ kNew := by
      show nameOf P x ++ [32, 61, 32, 110, 101, 119] = _
      simp [eqs, kNew]
    rw [e]
    exact read_right hR Q ⟨kNew, x, 0, []⟩ _ hx [] [] rfl rfl rfl rfl rfl
  · obtain rfl : args = [] := h0 rfl
    have hy' : funB P y = true := hy
    have e : lineStmt P ⟨kFun, x, y, []⟩ = nameOf P x ++ eqs ++ ([102, 110, 32] ++ funOf P y) := by
      show nameOf P x ++ [32, 61, 32, 102, 110, 32] ++ funOf P y = _
      simp [eqs]
    rw [e]
    refine read_right hR Q ⟨kFun, x, y, []⟩ _ hx (funOf P y) [] (right_fun _ (hR.fname hy')) (hR.fidx hy') ?_ rfl rfl
    have := funB_parts hy'
    rw [beq_eq_false_iff_ne]; show y ≠ -1; omega
  · have hy' : varB P y = true := hy
    have e : lineStmt P ⟨kCall, x, y, args⟩ = nameOf P x ++ eqs ++ ([99, 97, 108, 108, 32] ++ (nameOf P y ++ namesT P args)) := by
      show nameOf P x ++ [32, 61, 32, 99, 97, 108, 108, 32] ++ nameOf P y ++ namesT P args = _
      simp [eqs]
    rw [e]
    exact read_right hR Q ⟨kCall, x, y, args⟩ _ hx (nameOf P y) (args.map (nameOf P)) (right_call hR _ (hR.name hy') _ ha) (hR.idx hy') (ne_minus hy') (map_idx hR _ ha) (no_minus _ ha)

theorem goLines_app (P Q : ProgD) (k : Nat) (rest : Bs) (l : Bs) (ls : List Bs) (h : readLineD P l = (Q, none)) : goLines P k rest (l :: ls) = goLines Q (k + 1) rest ls := by
  rw [goLines, h]
theorem go_vars (V : List Bs) : ∀ (r : List Bs) (k : Nat) (rest : Bs) (ms : List Bs), r.all isNm = true → goLines ⟨V, [], []⟩ k rest (r.map lineVar ++ ms) = goLines ⟨V ++ r, [], []⟩ (k + r.length) rest ms := by
  intro r
  induction r generalizing V with
  | nil => intro k rest ms _; simp
  | cons v r ih =>
    intro k rest ms h
    rw [List.all_cons, Bool.and_eq_true] at h
    rw [List.map_cons, List.cons_append, goLines_app _ _ k rest _ _ (read_var V v h.1), ih (V ++ [v]) (k + 1) rest ms h.2]
    rw [List.append_assoc, List.length_cons]
    congr 1; omega
theorem go_funs {P : ProgD} (hR : Right P) (F : List FunD) : ∀ (r : List FunD) (k : Nat) (rest : Bs) (ms : List Bs), (∀ f ∈ r, f ∈ P.funs) → goLines ⟨P.vars, F, []⟩ k rest (r.map (lineFun P) ++ ms) = goLines ⟨P.vars, F ++ r, []⟩ (k + r.length) rest ms := by
  intro r
  induction r generalizing F with
  | nil => intro k rest ms _; simp
  | cons f r ih =>
    intro k rest ms h
    rw [List.map_cons, List.cons_append, goLines_app _ _ k rest _ _ (read_fun hR F f (h f (List.mem_cons_self ..))), ih (F ++ [f]) (k + 1) rest ms (fun g hg => h g (List.mem_cons_of_mem _ hg))]
    rw [List.append_assoc, List.length_cons]
    congr 1; omega
theorem go_stmts {P : ProgD} (hR : Right P) (S : List StmtD) : ∀ (r : List StmtD) (k : Nat) (rest : Bs) (ms : List Bs), (∀ s ∈ r, stmtE P s = none) → goLines ⟨P.vars, P.funs, S⟩ k rest (r.map (lineStmt P) ++ ms) = goLines ⟨P.vars, P.funs, S ++ r⟩ (k + r.length) rest ms := by
  intro r
  induction r generalizing S with
  | nil => intro k rest ms _; simp
  | cons s r ih =>
    intro k rest ms h
    rw [List.map_cons, List.cons_append, goLines_app _ _ k rest _ _ (read_stmt hR S s (h s (List.mem_cons_self ..))), ih (S ++ [s]) (k + 1) rest ms (fun g hg => h g (List.mem_cons_of_mem _ hg))]
    rw [List.append_assoc, List.length_cons]
    congr 1; omega

theorem no_append {c : UInt8} {a b : Bs} (h1 : c ∉ a) (h2 : c ∉ b) : c ∉ a ++ b := fun e => (List.mem_append.1 e).elim h1 h2
theorem namesT_no {P : ProgD} (hR : Right P) (l : List Int) (hl : l.all (varB P) = true) : (10 : UInt8) ∉ namesT P l := by
  unfold namesT
  refine no_append (no_append (by decide) (join_no 10 _ (by decide) (by decide) (fun y hy => ?_))) (by decide)
  obtain ⟨k, hk, rfl⟩ := List.mem_map.1 hy
  exact isNm_not (hR.name (List.all_eq_true.1 hl k hk)) 10 (by decide)
theorem lineFun_no {P : ProgD} (hR : Right P) (f : FunD) (hf : f ∈ P.funs) : (10 : UInt8) ∉ lineFun P f := by
  have hn : isNm f.name = true := List.all_eq_true.1 hR.fn f.name (List.mem_map.2 ⟨f, hf, rfl⟩)
  obtain ⟨hp, hr⟩ := hR.fp f hf
  unfold lineFun
  exact no_append (no_append (no_append (no_append (by decide) (isNm_not hn 10 (by decide))) (namesT_no hR _ hp)) (by decide)) (isNm_not (hR.name hr) 10 (by decide))
theorem lineStmt_no {P : ProgD} (hR : Right P) (s : StmtD) (hs : stmtE P s = none) : (10 : UInt8) ∉ lineStmt P s := by
  obtain ⟨hk, hx, hy, ha, _, h0, hz⟩ := stmt_parts hs
  obtain ⟨k, x, y, args⟩ := s
  have hn : (10 : UInt8) ∉ nameOf P x := isNm_not (hR.name hx) 10 (by decide)
  rcases kinds_cases hk with rfl | rfl | rfl | rfl | rfl | rfl | rfl
  · have hy' : (10 : UInt8) ∉ nameOf P y := isNm_not (hR.name (k := y) hy) 10 (by decide)
    exact no_append (no_append hn (by decide)) hy'
  · have hy' : (10 : UInt8) ∉ nameOf P y := isNm_not (hR.name (k := y) hy) 10 (by decide)
    exact no_append (no_append hn (by decide)) hy'
  · have hy' : (10 : UInt8) ∉ nameOf P y := isNm_not (hR.name (k := y) hy) 10 (by decide)
    exact no_append (no_append hn (by decide)) hy'
  · have hy' : (10 : UInt8) ∉ nameOf P y := isNm_not (hR.name (k := y) hy) 10 (by decide)
    exact no_append (no_append (no_append (a := [42]) (by decide) hn) (by decide)) hy'
  · exact no_append hn (by decide)
  · have hy' : (10 : UInt8) ∉ funOf P y := isNm_not (hR.fname (k := y) hy) 10 (by decide)
    exact no_append (no_append hn (by decide)) hy'
  · have hy' : (10 : UInt8) ∉ nameOf P y := isNm_not (hR.name (k := y) hy) 10 (by decide)
    exact no_append (no_append (no_append hn (by decide)) hy') (namesT_no hR _ ha)

/-- A program is read as it was written. -/
theorem read_text {P : ProgD} (h : checkE P = none) (hl : (textP P).length ≤ 4000) : readD (textP P) = (P, none) := by
  have hR := right_of h
  have hlines : linesOf (textP P) = (P.vars.map lineVar ++ (P.funs.map (lineFun P) ++ (P.stmts.map (lineStmt P) ++ [])), []) := by
    unfold textP
    rw [List.append_assoc, linesOf_ended _ _ ?_, linesOf_ended _ _ ?_, ← List.append_nil (ended (P.stmts.map (lineStmt P))), linesOf_ended _ _ ?_]
    · rfl
    · intro l hl2
      obtain ⟨s, hs, rfl⟩ := List.mem_map.1 hl2
      exact lineStmt_no hR s (hR.st s hs)
    · intro l hl2
      obtain ⟨f, hf, rfl⟩ := List.mem_map.1 hl2
      exact lineFun_no hR f hf
    · intro l hl2
      obtain ⟨v, hv, rfl⟩ := List.mem_map.1 hl2
      exact no_append (by decide) (isNm_not (List.all_eq_true.1 hR.vn v hv) 10 (by decide))
  have hgo : linesD noProg 0 (textP P) = (P, none) := by
    unfold linesD
    rw [hlines]
    show goLines ⟨[], [], []⟩ 0 [] _ = _
    rw [go_vars [] P.vars 0 [] _ hR.vn, List.nil_append, go_funs hR [] P.funs _ [] _ (fun _ h => h), List.nil_append, go_stmts hR [] P.stmts _ [] _ hR.st, List.nil_append]
    rfl
  unfold readD
  rw [if_neg (by omega), hgo]
  show (match checkE P with | some e => (noProg, bareE (some e)) | none => (P, none)) = _
  rw [h]
end Go.Proofs.YtimmkenmahagjaaGreatDoor
