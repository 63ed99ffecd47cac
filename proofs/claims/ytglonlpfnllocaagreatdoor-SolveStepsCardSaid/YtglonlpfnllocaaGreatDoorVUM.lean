/-
  Package solve in memory: the last fact that is due goes; a row of what the nodes have is another.
-/
import Derived.Test.YtglonlpfnllocaaGreatDoorVTM
namespace Go.Proofs.YtglonlpfnllocaaGreatDoor
open Go.RowKit Go.Extern.Stop Go.Stop Go.Extern Go.Maps

theorem set_otherC (w : World) (g k : Nat) (x : Value) (b : Nat) (h : g ≠ b) : (w.setCell ⟨g, k, none⟩ x).heap[b]? = w.heap[b]? := by
  simp only [World.setCell, Array.getElem?_modify]
  rw [if_neg h]
theorem row_keep {w w' : World} {B : Nat} {e : TypeId} {k n : Nat} {v : Value} {xs : List Value} (h : w.ownsRow B e k v n xs) (hk : ∀ (b : Nat) (cs : Array Value), v.ownBlock = some b → w.heap[b]? = some (.cells cs e (0, 0)) → w'.heap[b]? = some (.cells cs e (0, 0))) : w'.ownsRow B e k v n xs := by
  refine ⟨h.1, ?_⟩
  rcases h.2 with q | ⟨g, cap, cur, rfl, hb, hh, hr⟩
  · exact Or.inl q
  · exact Or.inr ⟨g, cap, cur, rfl, hb, hk g cur rfl hh, hr⟩
theorem row_less {w : World} {B : Nat} {e : TypeId} {k n d c : Nat} {a : Option Addr} {xs : List Value} (h : w.ownsRow B e k (.slice a n c) n xs) (hd : d ≤ n) : w.ownsRow B e k (.slice a d c) d (xs.take (d * k)) := by
  refine ⟨by rw [List.length_take, h.1]; exact Nat.min_eq_left (Nat.mul_le_mul_right k hd), ?_⟩
  rcases h.2 with ⟨q, q2⟩ | ⟨g, cap, cur, hv, hb, hh, hnc, hcm, hsz, hcur⟩
  · injection q with q1 q2' q3
    left
    subst q1 q3
    have : d = 0 := by omega
    rw [this]
    exact ⟨rfl, rfl⟩
  · injection hv with e1 e2 e3
    right
    refine ⟨g, cap, cur, by rw [e1, e3], hb, hh, by omega, hcm, hsz, ?_⟩
    rw [← hcur, List.take_take, Nat.min_eq_left (Nat.mul_le_mul_right k hd)]
theorem ecells_take (es : List Pair) (d : Nat) : (ecells es).take (d * 2) = ecells (es.take d) := by
  induction es generalizing d with
  | nil => simp [ecells]
  | cons p es ih =>
    cases d with
    | zero => simp [ecells]
    | succ d =>
      rw [ecells_cons, List.take_succ_cons, ecells_cons, show (d + 1) * 2 = d * 2 + 1 + 1 by omega, List.take_succ_cons, List.take_succ_cons, ih]
/-- The last fact that is due goes. -/
theorem SolM.pop {w : World} {B sb : Nat} {fs : List FunD} {m : SolB} {s : SolD} (h : SolM w B sb fs m s) (d : Nat) (hd : d ≤ s.due.length) :
    SolM (w.setCell ⟨sb, 4, none⟩ (.slice m.da d m.dc)) B sb fs m { s with due := s.due.take d } ∧ SolStep w (w.setCell ⟨sb, 4, none⟩ (.slice m.da d m.dc)) sb m m s { s with due := s.due.take d } := by
  have hl : (s.due.take d).length = d := by rw [List.length_take]; exact Nat.min_eq_left hd
  have hsb := h.blk
  have keep : ∀ (k : Nat) (o : Obj), w.heap[k]? = some o → k ≠ sb → (w.setCell ⟨sb, 4, none⟩ (.slice m.da d m.dc)).heap[k]? = some o := fun k o q hne => by
    rw [set_otherC w sb 4 _ k (fun e => hne e.symm)]; exact q
  have hob : (Value.slice m.da d m.dc).ownBlock = (Value.slice m.da s.due.length m.dc).ownBlock := by cases m.da <;> rfl
  have hown : ∀ k, OwnB sb m { s with due := s.due.take d } k ↔ OwnB sb m s k := fun k => by
    unfold OwnB
    show _ ∨ _ ∨ _ ∨ _ ∨ _ ∨ (Value.slice m.da (s.due.take d).length m.dc).ownBlock = some k ∨ _ ↔ _
    rw [hl, hob]
  have rows : ∀ {t : TypeId} {k n : Nat} {v : Value} {xs : List Value}, w.ownsRow B t k v n xs → t ≠ TSol → (w.setCell ⟨sb, 4, none⟩ (.slice m.da d m.dc)).ownsRow B t k v n xs := fun {t k n v xs} q hne => row_keep q fun b cs _ hb => keep b _ hb (ne_types hb hsb hne)
  obtain ⟨es2, cl2, heb⟩ := h.edges.isMap
  obtain ⟨es, cl, hkb⟩ := h.known.isMap
  obtain ⟨es3, cl3, hrb⟩ := h.rules.isMap
  have hstep : SolStep w (w.setCell ⟨sb, 4, none⟩ (.slice m.da d m.dc)) sb m m s { s with due := s.due.take d } :=
    ⟨fun k o q hn => keep k o q (fun e => hn (Or.inl e)), fun k q => Or.inl ((hown k).1 q), rfl, rfl, rfl, by simp [World.setCell], rfl, rfl, rfl, rfl, rfl, rfl, rfl, rfl, rfl, rfl, rfl⟩
  refine ⟨⟨?_, ⟨h.has.low, h.has.lu, keep _ _ h.has.blk (ne_types h.has.blk hsb (by decide)), fun j hj => rows (h.has.own j hj) (by decide), h.has.apart⟩, ?_, h.known.keep ?_, h.edges.keep ?_, fun a ha => rows (h.erow a ha) (by decide), h.eapart, h.ehas, h.rules.keep ?_, fun a ha => rows (h.rrow a ha) (by decide), h.rapart, h.maps, fun w2 h2 => ?_, h.rlen⟩, hstep⟩
  · rw [set_block _ _ _ _ _ _ hsb, hl]
    rfl
  · show World.ownsRow _ B TFa 2 (.slice m.da (s.due.take d).length m.dc) (s.due.take d).length (ecells (s.due.take d))
    rw [hl, ← ecells_take]
    exact rows (row_less h.due hd) (by decide)
  · rw [hkb, keep _ _ hkb (fun e => ne_map hsb hkb e.symm)]
  · rw [heb, keep _ _ heb (fun e => ne_map hsb heb e.symm)]
  · rw [hrb, keep _ _ hrb (fun e => ne_map hsb hrb e.symm)]
  · have q := h.ro w2 fun k o q hn => h2 k o (keep k o q (fun e => hn (Or.inl e))) (fun q2 => hn ((hown k).1 q2))
    exact ⟨q.funs, q.args⟩
/-- A row of what the nodes have is another. -/
theorem SolM.putRow {w w1 : World} {B sb : Nat} {fs : List FunD} {m : SolB} {s : SolD} (h : SolM w B sb fs m s) (X : Nat) (hX : X < s.has.length) (v' : Value) (zs : List Int) (hkeep : KeepBut w w1 (m.us.getD X .nilIface).ownBlock) (hb1 : Below B w w1)
    (hv : w1.ownsRow B 3 1 v' zs.length (zs.map intV)) (hob : v'.ownBlock = (m.us.getD X .nilIface).ownBlock ∨ ∀ g', v'.ownBlock = some g' → w.heap.size ≤ g') :
    SolM (w1.setCell ⟨m.g, X, none⟩ v') B sb fs { m with us := m.us.set X v' } { s with has := s.has.set X zs } ∧ SolStepR w (w1.setCell ⟨m.g, X, none⟩ v') sb m { m with us := m.us.set X v' } s { s with has := s.has.set X zs } := by
  have hsb := h.blk
  have hux := h.has.own X hX
  have hlus : X < m.us.length := by rw [h.has.lu]; exact hX
  have keep : ∀ (k : Nat) (o : Obj), w.heap[k]? = some o → (m.us.getD X .nilIface).ownBlock ≠ some k → k ≠ m.g → (w1.setCell ⟨m.g, X, none⟩ v').heap[k]? = some o := fun k o q h1 hne => by
    rw [set_otherC w1 m.g X _ k (fun e => hne e.symm)]; exact hkeep k o q h1
  have hgb := h.has.blk
  have rowsT : ∀ {t : TypeId} {k n : Nat} {v : Value} {xs : List Value}, w.ownsRow B t k v n xs → t ≠ 3 → t ≠ TSI → (w1.setCell ⟨m.g, X, none⟩ v').ownsRow B t k v n xs := fun {t k n v xs} q h1 h2 => row_keep q fun b cs _ hb => keep b _ hb (own_ne hux hb (Ne.symm h1)) (ne_types hb hgb h2)
  have rowsA : ∀ {k n : Nat} {v : Value} {xs : List Value}, w.ownsRow B 3 k v n xs → ApartR (m.us.getD X .nilIface) v → (w1.setCell ⟨m.g, X, none⟩ v').ownsRow B 3 k v n xs := fun {k n v xs} q hap => row_keep q fun b cs hob hb => keep b _ hb (fun e => by
    rcases hap with q2 | q2
    · rw [q2] at hob; cases hob
    · exact q2 (by rw [hob, e])) (ne_types hb hgb (by decide))
  obtain ⟨es2, cl2, heb⟩ := h.edges.isMap
  obtain ⟨es, cl, hkb⟩ := h.known.isMap
  obtain ⟨es3, cl3, hrb⟩ := h.rules.isMap
  have hmap : ∀ {b : Nat} {es : Array MapEntry} {c : Nat}, w.heap[b]? = some (.map es c) → (w1.setCell ⟨m.g, X, none⟩ v').heap[b]? = some (.map es c) := fun {b es c} hb => keep _ _ hb (own_ne_map hux hb) (fun e => ne_map hgb hb e.symm)
  have hset : ∀ j, (m.us.set X v').getD j .nilIface = if j = X then v' else m.us.getD j .nilIface := fun j => by
    by_cases e : j = X
    · subst e
      rw [if_pos rfl]
      simp [List.getD, hlus]
    · rw [if_neg e, getD_set_otherE _ _ _ _ _ (fun q => e q.symm)]
  have hown : ∀ k, OwnB sb { m with us := m.us.set X v' } { s with has := s.has.set X zs } k → OwnB sb m s k ∨ w.heap.size ≤ k := fun k q => by
    rcases q with q1 | q1 | q1 | q1 | q1 | q1 | ⟨j, q1, q2⟩ | q1 | q1
    · exact Or.inl (Or.inl q1)
    · exact Or.inl (Or.inr (Or.inl q1))
    · exact Or.inl (Or.inr (Or.inr (Or.inl q1)))
    · exact Or.inl (Or.inr (Or.inr (Or.inr (Or.inl q1))))
    · exact Or.inl (Or.inr (Or.inr (Or.inr (Or.inr (Or.inl q1)))))
    · exact Or.inl (Or.inr (Or.inr (Or.inr (Or.inr (Or.inr (Or.inl q1))))))
    · have q1' : j < s.has.length := by rw [List.length_set] at q1; exact q1
      simp only at q2
      rw [hset j] at q2
      by_cases e : j = X
      · rw [if_pos e] at q2
        rcases hob with q3 | q3
        · exact Or.inl (Or.inr (Or.inr (Or.inr (Or.inr (Or.inr (Or.inr (Or.inl ⟨X, hX, by rw [← q3, q2]⟩)))))))
        · exact Or.inr (q3 k q2)
      · rw [if_neg e] at q2
        exact Or.inl (Or.inr (Or.inr (Or.inr (Or.inr (Or.inr (Or.inr (Or.inl ⟨j, q1', q2⟩)))))))
    · exact Or.inl (Or.inr (Or.inr (Or.inr (Or.inr (Or.inr (Or.inr (Or.inr (Or.inl q1))))))))
    · exact Or.inl (Or.inr (Or.inr (Or.inr (Or.inr (Or.inr (Or.inr (Or.inr (Or.inr q1))))))))
  have hkeepO : ∀ (k : Nat) (o : Obj), w.heap[k]? = some o → ¬ OwnB sb m s k → (w1.setCell ⟨m.g, X, none⟩ v').heap[k]? = some o := fun k o q hn => keep k o q (fun e => hn (Or.inr (Or.inr (Or.inr (Or.inr (Or.inr (Or.inr (Or.inl ⟨X, hX, e⟩)))))))) (fun e => hn (Or.inr (Or.inl e)))
  have hstep : SolStepR w (w1.setCell ⟨m.g, X, none⟩ v') sb m { m with us := m.us.set X v' } s { s with has := s.has.set X zs } :=
    ⟨hkeepO, hown, hb1.os, hb1.tape, hb1.output, by simp only [World.setCell, Array.size_modify]; exact hb1.size, rfl, rfl, rfl⟩
  refine ⟨⟨?_, h.has.put X hX v' zs hkeep hv hob, rowsT h.due (by decide) (by decide), h.known.keep ?_, h.edges.keep ?_, fun a ha => rowsA (h.erow a ha) (h.ehas a X ha hX).symm, h.eapart, fun a j ha hj => ?_, h.rules.keep ?_, fun a ha => rowsT (h.rrow a ha) (by decide) (by decide), h.rapart, h.maps, fun w2 h2 => ?_, h.rlen⟩, hstep⟩
  · show _ = some (Obj.cells #[m.v1, m.v2, m.v3, .slice (some ⟨m.g, 0, none⟩) (s.has.set X zs).length m.hc, .slice m.da s.due.length m.dc, .map (some m.kb), .map (some m.eb), .map (some m.rb)] TSol (0, 0))
    rw [List.length_set]
    exact keep _ _ hsb (own_ne hux hsb (by decide)) (ne_types hsb hgb (by decide))
  · rw [hkb, hmap hkb]
  · rw [heb, hmap heb]
  · have hj' : j < s.has.length := by rw [List.length_set] at hj; exact hj
    show ApartR (m.ev a) ((m.us.set X v').getD j .nilIface)
    rw [hset j]
    by_cases e : j = X
    · rw [if_pos e]
      exact (apart_new hob (h.erow a ha) (h.ehas a X ha hX).symm).symm
    · rw [if_neg e]
      exact h.ehas a j ha hj'
  · rw [hrb, hmap hrb]
  · have q := h.ro w2 (hstep.keeps h2)
    exact ⟨q.funs, q.args⟩
end Go.Proofs.YtglonlpfnllocaaGreatDoor
