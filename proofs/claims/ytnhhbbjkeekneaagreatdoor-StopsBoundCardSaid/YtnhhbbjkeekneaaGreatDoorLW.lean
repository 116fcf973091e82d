/- LW: several texts in one (QA LW). -/
import Derived.Test.YtnhhbbjkeekneaaGreatDoorQ7
import Derived.Test.YtnhhbbjkeekneaaGreatDoorVA
/- QA: layer 7: lists of requests in memory, rising lists. No project text. -/
namespace Go.V
open Go.RowKit
section
variable {P : Program} {w : World} {ops : Array Oper} {rest : List Oper} {o : Oper} {a : Act} {Q : Exit → Act → World → Prop}
/-- 'make([]T, 0, c)', T a struct or an array -/
theorem wp_mk0W {t e : TypeId} {z : List Value} {sz by_ : Nat} (ht : SlW P t e z sz by_) (x y : Operand) (hgd : o.guard = none) (ho : o.op = .makeSlice t x y) (c : Nat)
    (hx : a.eval x = .int .i64 0) (hy : a.eval y = .int .i64 (c : Int)) (hb : by_ * c ≤ 281474976710656) (hm : c ≤ maxLen)
    (h : ∀ w', w'.ownsRow w.heap.size e sz (.slice (some ⟨w.heap.size, 0, none⟩) 0 c) 0 [] → Below w.heap.size w w' → wpList P ops Q rest (a.put o.dst (.slice (some ⟨w.heap.size, 0, none⟩) 0 c)) w') : wpList P ops Q (o :: rest) a w := by
  refine wpList_plain hgd fun K hK => ?_
  obtain ⟨i, hi, hzz, hsz, hby⟩ := ht.inf
  have h63 : (c : Int) ≤ 9223372036854775807 := by simp [maxLen] at hm; omega
  have hb' : (i.bytes : Int) * (c : Int) ≤ 281474976710656 := by
    have : ((i.bytes * c : Nat) : Int) ≤ 281474976710656 := by rw [hby]; omega
    rwa [Int.natCast_mul] at this
  have hr := run_make (P := P) (w := w) t e i (.agg z.toArray) ht.sl hi hzz .i64 .i64 0 c (by omega) (by omega) hb' h63
  unfold Oper.wp execOp
  simp only [ho, hx, hy, Sem.run_bind, Sem.run_pure, hr, Result.andThen_ok]
  refine hK _ _ ?_
  have e0 : (0 : Int).toNat = 0 := rfl
  simp only [Int.toNat_natCast, e0]
  exact h _ (World.ownsRow_made w _ c (Nat.le_refl _) hm (by simp [madeCells, hsz])) ((Below.refl _ _).alloc (Nat.le_refl _) _)
end
/-- a list of requests as data -/
def rqD (r : Rq) : List Dat := [.atom (.int .i64 r.c), .atom (.int .i64 r.s), .atom (.int .i64 r.k), .atom (.int .i64 r.y), .atom (.int .i64 r.a), .atom (.int .i64 r.b), bys r.g]
def rqs (l : List Rq) : Dat := .sl l.length (l.flatMap rqD)
theorem rdC_cons {w : World} {F : Nat → Prop} {g : Nat} (d : Dat) (ds : List Dat) (off : Nat) : RdC w F g off (d :: ds) ↔ (∃ u, w.cell? ⟨g, off, none⟩ = some u ∧ Rd w F u d) ∧ RdC w F g (off + 1) ds := by
  rw [RdC]
theorem rdC_app {w : World} {F : Nat → Prop} {g : Nat} : ∀ (x y : List Dat) (off : Nat), RdC w F g off (x ++ y) ↔ RdC w F g off x ∧ RdC w F g (off + x.length) y
  | [], y, off => by simp [RdC]
  | d :: x, y, off => by
    rw [List.cons_append, rdC_cons, rdC_cons, rdC_app x y (off + 1), List.length_cons, show off + 1 + x.length = off + (x.length + 1) from by omega, and_assoc]
theorem rdC_rq {w : World} {F : Nat → Prop} {g off : Nat} {r : Rq} : RdC w F g off (rqD r) ↔ ∃ u, w.rangeAt g off (r.l u) ∧ Rd w F u (bys r.g) := by
  unfold rqD
  constructor
  · intro h
    simp only [RdC, Rd, and_true] at h
    obtain ⟨⟨_, h0, rfl⟩, ⟨_, h1, rfl⟩, ⟨_, h2, rfl⟩, ⟨_, h3, rfl⟩, ⟨_, h4, rfl⟩, ⟨_, h5, rfl⟩, ⟨u, h6, hu⟩⟩ := h
    refine ⟨u, fun j v hv => ?_, hu⟩
    match j, hv with
    | 0, hv => simp [Rq.l] at hv; subst hv; exact h0
    | 1, hv => simp [Rq.l] at hv; subst hv; exact h1
    | 2, hv => simp [Rq.l] at hv; subst hv; exact h2
    | 3, hv => simp [Rq.l] at hv; subst hv; exact h3
    | 4, hv => simp [Rq.l] at hv; subst hv; exact h4
    | 5, hv => simp [Rq.l] at hv; subst hv; exact h5
    | 6, hv => simp [Rq.l] at hv; subst hv; exact h6
    | _ + 7, hv => simp [Rq.l] at hv
  · rintro ⟨u, h, hu⟩
    simp only [RdC, Rd, and_true]
    exact ⟨⟨_, h 0 _ rfl, rfl⟩, ⟨_, h 1 _ rfl, rfl⟩, ⟨_, h 2 _ rfl, rfl⟩, ⟨_, h 3 _ rfl, rfl⟩, ⟨_, h 4 _ rfl, rfl⟩, ⟨_, h 5 _ rfl, rfl⟩, ⟨u, h 6 _ rfl, hu⟩⟩
theorem len_rqD (r : Rq) : (rqD r).length = 7 := rfl
theorem rdC_el {w : World} {F : Nat → Prop} {g : Nat} : ∀ (l : List Rq) (off i : Nat) (r : Rq), RdC w F g off (l.flatMap rqD) → l[i]? = some r → RdC w F g (off + i * 7) (rqD r)
  | [], _, i, r, _, h => by simp at h
  | x :: l, off, 0, r, hc, h => by
    simp at h
    subst h
    rw [List.flatMap_cons, rdC_app] at hc
    rw [Nat.zero_mul, Nat.add_zero]
    exact hc.1
  | x :: l, off, i + 1, r, hc, h => by
    rw [List.flatMap_cons, rdC_app, len_rqD] at hc
    rw [show off + (i + 1) * 7 = off + 7 + i * 7 from by omega]
    exact rdC_el l (off + 7) i r hc.2 (by simpa using h)
theorem rdC_of {w : World} {F : Nat → Prop} {g : Nat} : ∀ (l : List Rq) (off : Nat), (∀ i r, l[i]? = some r → RdC w F g (off + i * 7) (rqD r)) → RdC w F g off (l.flatMap rqD)
  | [], _, _ => by simp [RdC]
  | x :: l, off, h => by
    rw [List.flatMap_cons, rdC_app, len_rqD]
    refine ⟨by simpa using h 0 x rfl, rdC_of l (off + 7) (fun i r hi => ?_)⟩
    rw [show off + 7 + i * 7 = off + (i + 1) * 7 from by omega]
    exact h (i + 1) r (by simpa using hi)
theorem rqs_shape {w : World} {F : Nat → Prop} {v : Value} {l : List Rq} (h : Rd w F v (rqs l)) : ∃ A c, v = .slice A l.length c := by
  unfold rqs Rd at h
  obtain ⟨A, c, hv, _⟩ := h
  exact ⟨A, c, hv⟩
theorem rqs_spot {w : World} {F : Nat → Prop} {v : Value} {l : List Rq} (h : Rd w F v (rqs l)) (hl : 0 < l.length) : ∃ g off c, v = .slice (some ⟨g, off, none⟩) l.length c := by
  unfold rqs Rd at h
  obtain ⟨A, c, hv, _, _, _, h4⟩ := h
  have hne : l.flatMap rqD ≠ [] := by
    match l, hl with
    | x :: l, _ => simp [rqD]
  obtain ⟨g, off, hA, _⟩ := h4 hne
  exact ⟨g, off, c, by rw [hv, hA]⟩
/-- one of them -/
theorem rqs_el {w : World} {F : Nat → Prop} {l : List Rq} {g off n c : Nat} (h : Rd w F (.slice (some ⟨g, off, none⟩) n c) (rqs l)) {i : Nat} {r : Rq} (hr : l[i]? = some r) : ∃ u, w.rangeAt g (off + i * 7) (r.l u) ∧ Rd w F u (bys r.g) := by
  unfold rqs Rd at h
  obtain ⟨A, k, hv, _, _, _, h4⟩ := h
  have hne : l.flatMap rqD ≠ [] := by
    match l, hr with
    | x :: l, _ => simp [rqD]
  obtain ⟨g', off', hA, _, hc⟩ := h4 hne
  injection hv with hv
  rw [hA] at hv
  injection hv with hv
  injection hv with h1 h2
  subst h1 h2
  exact rdC_rq.1 (rdC_el l _ i r hc hr)
/-- what a row of requests holds, their signatures in blocks of F -/
def RqX (w : World) (F : Nat → Prop) : List Rq → List Value → Prop
  | [], xs => xs = []
  | r :: l, xs => ∃ u ys, xs = r.l u ++ ys ∧ Rd w F u (bys r.g) ∧ RqX w F l ys
theorem RqX.keep {w w' : World} {F F' : Nat → Prop} (hF : ∀ b, b < w.heap.size → F b → F' b ∧ w'.heap[b]? = w.heap[b]?) : ∀ {l : List Rq} {xs : List Value}, RqX w F l xs → RqX w' F' l xs
  | [], _, h => h
  | _ :: _, _, ⟨u, ys, h1, h2, h3⟩ => ⟨u, ys, h1, h2.keep hF, h3.keep hF⟩
theorem RqX.snoc {w : World} {F : Nat → Prop} {r : Rq} {u : Value} (hu : Rd w F u (bys r.g)) : ∀ {l : List Rq} {xs : List Value}, RqX w F l xs → RqX w F (l ++ [r]) (xs ++ r.l u)
  | [], _, h => by
    have h : _ = [] := h
    subst h
    exact ⟨u, [], by simp, hu, rfl⟩
  | x :: l, _, ⟨u', ys, h1, h2, h3⟩ => ⟨u', ys ++ r.l u, by rw [h1, List.append_assoc], h2, RqX.snoc hu h3⟩
theorem len_l (r : Rq) (u : Value) : (r.l u).length = 7 := rfl
theorem RqX.el {w : World} {F : Nat → Prop} {g : Nat} : ∀ {l : List Rq} {xs : List Value} (off : Nat), RqX w F l xs → w.rangeAt g off xs → ∀ i r, l[i]? = some r → RdC w F g (off + i * 7) (rqD r)
  | [], _, _, _, _, i, r, hi => by simp at hi
  | x :: l, xs, off, ⟨u, ys, h1, h2, _⟩, hg, 0, r, hi => by
    simp at hi
    subst hi h1
    rw [Nat.zero_mul, Nat.add_zero]
    refine rdC_rq.2 ⟨u, fun j v hv => hg j v ?_, h2⟩
    rw [List.getElem?_append_left (List.getElem?_eq_some_iff.1 hv).1]
    exact hv
  | x :: l, xs, off, ⟨u, ys, h1, _, h3⟩, hg, i + 1, r, hi => by
    subst h1
    have hg' : w.rangeAt g (off + 7) ys := fun j v hv => by
      have := hg (7 + j) v (by rw [List.getElem?_append_right (by rw [len_l]; omega), len_l, show 7 + j - 7 = j from by omega]; exact hv)
      rwa [← Nat.add_assoc] at this
    have := RqX.el (off + 7) h3 hg' i r (by simpa using hi)
    rwa [show off + 7 + i * 7 = off + (i + 1) * 7 from by omega] at this
/-- an own row of requests, read -/
theorem rqs_own {w : World} {base : Nat} {e : TypeId} {F : Nat → Prop} {v : Value} {l : List Rq} {xs : List Value} (ho : w.ownsRow base e 7 v l.length xs) (hx : RqX w F l xs) (hF : ∀ b, F b → base ≤ b) : Rd w (fun b => base ≤ b) v (rqs l) := by
  unfold rqs Rd
  have hx := hx.keep (F' := fun b => base ≤ b) (fun b _ h => ⟨hF b h, rfl⟩)
  rcases ho.2 with ⟨rfl, h0⟩ | ⟨g, cap, cur, rfl, hg, hh, h1, h2, h3, h4⟩
  · have : l = [] := List.eq_nil_of_length_eq_zero h0
    subst this
    exact ⟨none, 0, rfl, Nat.le_refl _, by simp [maxLen], fun _ => rfl, fun h => absurd rfl h⟩
  · refine ⟨_, cap, rfl, h1, h2, fun h => by rw [List.eq_nil_of_length_eq_zero h]; rfl, fun _ => ⟨g, 0, rfl, hg, rdC_of l 0 (fun i r hi => ?_)⟩⟩
    have hr : w.rangeAt g 0 xs := fun j u hu => by
      have := ho.cells (g := g) rfl j u hu
      rwa [add_mk] at this
    exact hx.el 0 hr i r hi
/-- rising numbers: of two of one client the later one has the greater -/
def ris (l : List Rq) : Prop := l.Pairwise (fun x y => x.c = y.c → x.s < y.s)
instance (l : List Rq) : Decidable (ris l) := by unfold ris; infer_instance
def fmB (l : List Rq) : Bool := decide (1 ≤ l.length ∧ l.length ≤ 4 ∧ (∀ r ∈ l, r.fm = true) ∧ ris l)
/-- the last number of each client -/
def good (A : Nat → Int) (p : List Rq) : Prop := (∀ x ∈ p, ∀ c : Nat, x.c = (c : Int) → x.s ≤ A c) ∧ ∀ c, A c = 0 ∨ ∃ x ∈ p, x.c = (c : Int) ∧ x.s = A c
def upd (A : Nat → Int) (C : Nat) (s : Int) (c : Nat) : Int := if c = C then s else A c
theorem good_nil : good (fun _ => 0) [] := ⟨fun x h => by simp at h, fun _ => .inl rfl⟩
theorem good_snoc {A : Nat → Int} {p : List Rq} {r : Rq} {C : Nat} (h : good A p) (hc : r.c = (C : Int)) (hs : A C < r.s) : good (upd A C r.s) (p ++ [r]) := by
  refine ⟨fun x hx c hxc => ?_, fun c => ?_⟩
  · unfold upd
    rw [List.mem_append] at hx
    rcases hx with hx | hx
    · have := h.1 x hx c hxc
      split
      · rename_i e; subst e; omega
      · exact this
    · simp at hx
      subst hx
      rw [if_pos (by omega)]
      exact Int.le_refl _
  · unfold upd
    split
    · rename_i e
      subst e
      exact .inr ⟨r, by simp, hc, rfl⟩
    · rcases h.2 c with h0 | ⟨x, hx, hxc, hxs⟩
      · exact .inl h0
      · exact .inr ⟨x, by simp [hx], hxc, hxs⟩
theorem ris_snoc {p : List Rq} {r : Rq} : ris (p ++ [r]) ↔ ris p ∧ ∀ x ∈ p, x.c = r.c → x.s < r.s := by
  unfold ris
  rw [List.pairwise_append]
  simp
theorem ris_good {A : Nat → Int} {p : List Rq} {r : Rq} {C : Nat} (h : good A p) (hp : ris p) (hc : r.c = (C : Int)) (hs : A C < r.s) : ris (p ++ [r]) :=
  ris_snoc.2 ⟨hp, fun x hx he => by have := h.1 x hx C (by omega); omega⟩
theorem ris_bad {A : Nat → Int} {p : List Rq} {r : Rq} {C : Nat} (h : good A p) (hc : r.c = (C : Int)) (h1 : 1 ≤ r.s) (hs : r.s ≤ A C) : ¬ ris (p ++ [r]) := by
  intro hr
  rcases h.2 C with h0 | ⟨x, hx, hxc, hxs⟩
  · omega
  · have := (ris_snoc.1 hr).2 x hx (by omega)
    omega
theorem take_snoc' {l : List Rq} {i : Nat} {r : Rq} (h : l[i]? = some r) : l.take (i + 1) = l.take i ++ [r] := by
  rw [List.take_add_one, h]; rfl
theorem ris_take {l : List Rq} (h : ris l) (i : Nat) : ris (l.take i) := List.Pairwise.sublist (List.take_sublist _ _) h
theorem fmB_true {l : List Rq} (h1 : 1 ≤ l.length) (h2 : l.length ≤ 4) (h3 : ∀ r ∈ l, r.fm = true) (h4 : ris l) : fmB l = true := by
  unfold fmB; rw [decide_eq_true_iff]; exact ⟨h1, h2, h3, h4⟩
theorem fmB_len {l : List Rq} (h : l.length < 1 ∨ 4 < l.length) : fmB l = false := by
  unfold fmB; rw [decide_eq_false_iff_not]; omega
theorem fmB_fm {l : List Rq} {i : Nat} {r : Rq} (h : l[i]? = some r) (hf : r.fm = false) : fmB l = false := by
  unfold fmB; rw [decide_eq_false_iff_not]
  rintro ⟨_, _, h3, _⟩
  rw [h3 r (List.mem_of_getElem? h)] at hf
  cases hf
theorem fmB_ris {l : List Rq} (i : Nat) (h : ¬ ris (l.take i)) : fmB l = false := by
  unfold fmB; rw [decide_eq_false_iff_not]
  rintro ⟨_, _, _, h4⟩
  exact h (ris_take h4 i)
theorem fmB_all {l : List Rq} (h : fmB l = true) : 1 ≤ l.length ∧ l.length ≤ 4 ∧ (∀ r ∈ l, r.fm = true) ∧ ris l := by
  unfold fmB at h; rwa [decide_eq_true_iff] at h
end Go.V
/- LW: lists of structs in memory, whatever the struct: k cells each, told by their data. No project text. -/
namespace Go.V
open Go.RowKit
/-- how an element is told: k data, one a cell -/
structure WD (α : Type) (k : Nat) where
  dat : α → List Dat
  len : ∀ a, (dat a).length = k
  pos : 0 < k
variable {α : Type} {k : Nat}
def wds (T : WD α k) (l : List α) : Dat := .sl l.length (l.flatMap T.dat)
/-- cells that are an element -/
structure WdEl (w : World) (F : Nat → Prop) (T : WD α k) (a : α) (cs : List Value) : Prop where
  len : cs.length = k
  at_ : ∀ (j : Nat) (v : Value) (d : Dat), cs[j]? = some v → (T.dat a)[j]? = some d → Rd w F v d
theorem WdEl.keep {w w' : World} {F F' : Nat → Prop} {T : WD α k} {a : α} {cs : List Value} (h : WdEl w F T a cs) (hF : ∀ b, b < w.heap.size → F b → F' b ∧ w'.heap[b]? = w.heap[b]?) : WdEl w' F' T a cs :=
  ⟨h.len, fun j v d hv hd => (h.at_ j v d hv hd).keep hF⟩
theorem WdEl.below {w w' : World} {F : Nat → Prop} {T : WD α k} {a : α} {cs : List Value} (h : WdEl w F T a cs) (hB : Below w.heap.size w w') : WdEl w' F T a cs :=
  h.keep (fun b hb hf => ⟨hf, hB.block b hb⟩)
theorem wdC_cons {w : World} {F : Nat → Prop} {g : Nat} (d : Dat) (ds : List Dat) (off : Nat) : RdC w F g off (d :: ds) ↔ (∃ u, w.cell? ⟨g, off, none⟩ = some u ∧ Rd w F u d) ∧ RdC w F g (off + 1) ds := by
  rw [RdC]
theorem wdC_app {w : World} {F : Nat → Prop} {g : Nat} : ∀ (x y : List Dat) (off : Nat), RdC w F g off (x ++ y) ↔ RdC w F g off x ∧ RdC w F g (off + x.length) y
  | [], y, off => by simp [RdC]
  | d :: x, y, off => by
    rw [List.cons_append, wdC_cons, wdC_cons, wdC_app x y (off + 1), List.length_cons, show off + 1 + x.length = off + (x.length + 1) from by omega, and_assoc]
/-- data in a row's cells, as a list of cells -/
theorem wdC_out {w : World} {F : Nat → Prop} {g : Nat} : ∀ (ds : List Dat) (off : Nat), RdC w F g off ds → ∃ cs : List Value, cs.length = ds.length ∧ w.rangeAt g off cs ∧ ∀ (j : Nat) (v : Value) (d : Dat), cs[j]? = some v → ds[j]? = some d → Rd w F v d
  | [], off, _ => ⟨[], rfl, fun j v hv => by simp at hv, fun j v d hv => by simp at hv⟩
  | d :: ds, off, h => by
    obtain ⟨⟨u, hu, hr⟩, hc⟩ := (wdC_cons d ds off).1 h
    obtain ⟨cs, h1, h2, h3⟩ := wdC_out ds (off + 1) hc
    refine ⟨u :: cs, by simp [h1], fun j v hv => ?_, fun j v x hv hx => ?_⟩
    · cases j with
      | zero => simp at hv; subst hv; exact hu
      | succ j =>
        have := h2 j v (by simpa using hv)
        rwa [show off + 1 + j = off + (j + 1) from by omega] at this
    · cases j with
      | zero => simp at hv hx; subst hv hx; exact hr
      | succ j => exact h3 j v x (by simpa using hv) (by simpa using hx)
theorem wdC_in {w : World} {F : Nat → Prop} {g : Nat} : ∀ (ds : List Dat) (cs : List Value) (off : Nat), cs.length = ds.length → w.rangeAt g off cs → (∀ (j : Nat) (v : Value) (d : Dat), cs[j]? = some v → ds[j]? = some d → Rd w F v d) → RdC w F g off ds
  | [], _, off, _, _, _ => by simp [RdC]
  | d :: ds, [], off, hl, _, _ => by simp at hl
  | d :: ds, u :: cs, off, hl, h2, h3 => by
    refine (wdC_cons d ds off).2 ⟨⟨u, by simpa using h2 0 u rfl, h3 0 u d rfl rfl⟩, wdC_in ds cs (off + 1) (by simpa using hl) (fun j v hv => ?_) (fun j v x hv hx => h3 (j + 1) v x (by simpa using hv) (by simpa using hx))⟩
    rw [show off + 1 + j = off + (j + 1) from by omega]
    exact h2 (j + 1) v (by simpa using hv)
theorem wdC_el {w : World} {F : Nat → Prop} {g : Nat} (T : WD α k) : ∀ (l : List α) (off i : Nat) (a : α), RdC w F g off (l.flatMap T.dat) → l[i]? = some a → RdC w F g (off + i * k) (T.dat a)
  | [], _, i, a, _, h => by simp at h
  | x :: l, off, 0, a, hc, h => by
    simp at h
    subst h
    rw [List.flatMap_cons, wdC_app] at hc
    rw [Nat.zero_mul, Nat.add_zero]
    exact hc.1
  | x :: l, off, i + 1, a, hc, h => by
    rw [List.flatMap_cons, wdC_app, T.len] at hc
    rw [show off + (i + 1) * k = off + k + i * k from by rw [Nat.add_mul]; omega]
    exact wdC_el T l (off + k) i a hc.2 (by simpa using h)
theorem wdC_of {w : World} {F : Nat → Prop} {g : Nat} (T : WD α k) : ∀ (l : List α) (off : Nat), (∀ i a, l[i]? = some a → RdC w F g (off + i * k) (T.dat a)) → RdC w F g off (l.flatMap T.dat)
  | [], _, _ => by simp [RdC]
  | x :: l, off, h => by
    rw [List.flatMap_cons, wdC_app, T.len]
    refine ⟨by simpa using h 0 x rfl, wdC_of T l (off + k) (fun i a hi => ?_)⟩
    rw [show off + k + i * k = off + (i + 1) * k from by rw [Nat.add_mul]; omega]
    exact h (i + 1) a (by simpa using hi)
theorem wds_shape {w : World} {F : Nat → Prop} {T : WD α k} {v : Value} {l : List α} (h : Rd w F v (wds T l)) : ∃ A c, v = .slice A l.length c ∧ l.length ≤ c ∧ c ≤ maxLen := by
  unfold wds Rd at h
  obtain ⟨A, c, hv, h1, h2, _⟩ := h
  exact ⟨A, c, hv, h1, h2⟩
theorem wd_ne {T : WD α k} {l : List α} {i : Nat} {a : α} (h : l[i]? = some a) : l.flatMap T.dat ≠ [] := by
  match l, h with
  | x :: l, _ =>
    rw [List.flatMap_cons]
    intro e
    have h1 := T.len x
    rw [(List.append_eq_nil_iff.1 e).1] at h1
    have h2 := T.pos
    simp at h1
    omega
/-- one element of a list -/
theorem wd_el {w : World} {F : Nat → Prop} {T : WD α k} {l : List α} {A : Option Addr} {n c : Nat} (h : Rd w F (.slice A n c) (wds T l)) {i : Nat} {a : α} (hi : l[i]? = some a) : ∃ g off cs, A = some ⟨g, off, none⟩ ∧ F g ∧ w.rangeAt g (off + i * k) cs ∧ WdEl w F T a cs := by
  unfold wds Rd at h
  obtain ⟨A', c', hv, _, _, _, h4⟩ := h
  obtain ⟨g, off, hA, hg, hc⟩ := h4 (wd_ne hi)
  injection hv with hv
  obtain ⟨cs, h1, h2, h3⟩ := wdC_out _ _ (wdC_el T l off i a hc hi)
  exact ⟨g, off, cs, hv.trans hA, hg, h2, by rw [h1, T.len], h3⟩
/-- what a row of elements holds -/
def WdX (w : World) (F : Nat → Prop) (T : WD α k) : List α → List Value → Prop
  | [], xs => xs = []
  | a :: l, xs => ∃ cs ys, xs = cs ++ ys ∧ WdEl w F T a cs ∧ WdX w F T l ys
theorem WdX.keep {w w' : World} {F F' : Nat → Prop} {T : WD α k} (hF : ∀ b, b < w.heap.size → F b → F' b ∧ w'.heap[b]? = w.heap[b]?) : ∀ {l : List α} {xs : List Value}, WdX w F T l xs → WdX w' F' T l xs
  | [], _, h => h
  | _ :: _, _, ⟨cs, ys, h1, h2, h3⟩ => ⟨cs, ys, h1, h2.keep hF, h3.keep hF⟩
theorem WdX.snoc {w : World} {F : Nat → Prop} {T : WD α k} {a : α} {cs : List Value} (ha : WdEl w F T a cs) : ∀ {l : List α} {xs : List Value}, WdX w F T l xs → WdX w F T (l ++ [a]) (xs ++ cs)
  | [], _, h => by
    have h : _ = [] := h
    subst h
    exact ⟨cs, [], by simp, ha, rfl⟩
  | x :: l, _, ⟨ds, ys, h1, h2, h3⟩ => ⟨ds, ys ++ cs, by rw [h1, List.append_assoc], h2, WdX.snoc ha h3⟩
theorem WdX.el {w : World} {F : Nat → Prop} {T : WD α k} {g : Nat} : ∀ {l : List α} {xs : List Value} (off : Nat), WdX w F T l xs → w.rangeAt g off xs → ∀ i a, l[i]? = some a → RdC w F g (off + i * k) (T.dat a)
  | [], _, _, _, _, i, a, hi => by simp at hi
  | x :: l, xs, off, ⟨cs, ys, h1, h2, _⟩, hg, 0, a, hi => by
    simp at hi
    subst hi h1
    rw [Nat.zero_mul, Nat.add_zero]
    refine wdC_in _ cs off (by rw [h2.len, T.len]) (fun j v hv => hg j v ?_) h2.at_
    rw [List.getElem?_append_left (List.getElem?_eq_some_iff.1 hv).1]
    exact hv
  | x :: l, xs, off, ⟨cs, ys, h1, h2, h3⟩, hg, i + 1, a, hi => by
    subst h1
    have hl := h2.len
    have hg' : w.rangeAt g (off + k) ys := fun j v hv => by
      have := hg (k + j) v (by rw [List.getElem?_append_right (by omega), hl, Nat.add_sub_cancel_left]; exact hv)
      rwa [← Nat.add_assoc] at this
    have := WdX.el (off + k) h3 hg' i a (by simpa using hi)
    rwa [show off + k + i * k = off + (i + 1) * k from by rw [Nat.add_mul]; omega] at this
/-- an own row of elements, read -/
theorem wds_own {w : World} {base : Nat} {e : TypeId} {F : Nat → Prop} {T : WD α k} {v : Value} {l : List α} {xs : List Value} (ho : w.ownsRow base e k v l.length xs) (hx : WdX w F T l xs) {F' : Nat → Prop} (hF : ∀ b, F b → F' b) (hb : ∀ b, v.ownBlock = some b → F' b) : Rd w F' v (wds T l) := by
  unfold wds Rd
  have hx := hx.keep (F' := F') (fun b _ h => ⟨hF b h, rfl⟩)
  rcases ho.2 with ⟨rfl, h0⟩ | ⟨g, cap, cur, rfl, hg, hh, h1, h2, h3, h4⟩
  · have : l = [] := List.eq_nil_of_length_eq_zero h0
    subst this
    exact ⟨none, 0, rfl, Nat.le_refl _, by simp [maxLen], fun _ => rfl, fun h => absurd rfl h⟩
  · refine ⟨_, cap, rfl, h1, h2, fun h => by rw [List.eq_nil_of_length_eq_zero h]; rfl, fun _ => ⟨g, 0, rfl, hb g rfl, wdC_of T l 0 (fun i a hi => ?_)⟩⟩
    have hr : w.rangeAt g 0 xs := fun j u hu => by
      have := ho.cells (g := g) rfl j u hu
      rwa [add_mk] at this
    exact hx.el 0 hr i a hi
theorem WdX.len {w : World} {F : Nat → Prop} {T : WD α k} : ∀ {l : List α} {xs : List Value}, WdX w F T l xs → xs.length = l.length * k
  | [], _, h => by have h : _ = [] := h; subst h; simp
  | _ :: _, _, ⟨cs, ys, h1, h2, h3⟩ => by rw [h1, List.length_append, h2.len, h3.len, List.length_cons, Nat.add_mul]; omega
theorem wds_nil {w : World} {F : Nat → Prop} {T : WD α k} : Rd w F (.slice none 0 0) (wds T []) := by
  unfold wds Rd
  exact ⟨none, 0, rfl, Nat.le_refl _, by simp [maxLen], fun _ => rfl, fun h => absurd rfl h⟩
end Go.V
