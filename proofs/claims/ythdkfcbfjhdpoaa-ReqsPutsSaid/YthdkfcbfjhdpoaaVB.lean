/- VB: more laws of memory. No project text. -/
import Derived.Test.YthdkfcbfjhdpoaaVA
namespace Go.V
open Go.RowKit
/-- 'copy(d, s)', s no longer than d, d at offset off of a block that is known whole -/
theorem wp_copyB {P : Program} {w : World} {ops : Array Oper} {rest : List Oper} {o : Oper} {a : Act} {Q : Exit → Act → World → Prop} (d s : Operand) {t e : TypeId} {z : Value} {by_ : Nat} (ht : SlT P t e z by_) (hgd : o.guard = none)
    (ho : o.op = .call { callee := .builtin .copy, args := #[d, s], argTypes := #[t, t] })
    {Ad : Option Addr} {g off D cd : Nat} (hd : a.eval d = .slice Ad D cd) {A : Option Addr} {L c : Nat} (hs : a.eval s = .slice A L c)
    {t' : TypeId} {cs : List Value} (hb : Blk w g t' cs) {news : List Value} (hsrc : Src w A L news) (h1 : ∀ u ∈ news, u.oneCell' = true) (hLD : L ≤ D) (hAd : 0 < L → Ad = some ⟨g, off, none⟩) (hfit : off + L ≤ cs.length)
    (h : ∀ w', Blk w' g t' (splice cs off news) → w.grownBy w' (some g) → wpList P ops Q rest (a.put o.dst (goInt L)) w') :
    wpList P ops Q (o :: rest) a w := by
  obtain ⟨i, hi, _, hsz, _⟩ := ht.inf
  have hz : (P.info? e).map (·.size) = some 1 := by rw [hi]; simp [hsz]
  by_cases h0 : L = 0
  · subst h0
    obtain rfl : news = [] := List.eq_nil_of_length_eq_zero hsrc.1
    refine wpList_copy_nothing hgd d s t t ho e ht.sl hz _ _ _ _ _ _ hd hs (by simp) ?_
    exact h w (by simpa [splice] using hb) (World.grownBy.refl w _)
  · obtain rfl := hAd (by omega)
    have hl := hsrc.1
    cases A with
    | none => exact absurd hsrc.none0.1 h0
    | some ad =>
      refine wpList_copy_own hgd d s t t ho e ht.sl hz g off _ _ ad _ _ hd hs cs.toArray t' hb news (by rw [hl]; simp [Nat.min_def]; omega) hsrc.at (by simpa [hl] using hfit) h1 ?_
      have := h (w.setRow g (cs.take off ++ (news ++ cs.drop (off + news.length))).toArray) (by unfold splice; exact hb.row _) (grown_setRow w g _)
      simpa [hl] using this
/-- a block of the call's own, known whole, as a row that may grow -/
theorem own_of_blk {w : World} {base g : Nat} {e : TypeId} {xs : List Value} (h : Blk w g e xs) (hb : base ≤ g) (n : Nat) (hn : xs.length = n) (hm : n ≤ maxLen) : w.ownsRow base e 1 (.slice (some ⟨g, 0, none⟩) n n) n xs := by
  subst hn
  refine ⟨by omega, .inr ⟨g, xs.length, xs.toArray, rfl, hb, h, Nat.le_refl _, hm, by simp, by simp⟩⟩
theorem Blk.chAt {G : Nat → Prop} {w w' : World} {g : Nat} {t : TypeId} {cs : List Value} (h : Blk w g t cs) (hg : ¬ G g) (hc : Ch G w w') : w'.rangeAt g 0 cs := (h.ch hc hg).whole
theorem Ch.belowG {G : Nat → Prop} {a b c : World} (h : Ch G a b) (hB : Below b.heap.size b c) : Ch G a c := h.belowR hB
theorem at4v {l : List UInt8} {a b c d : UInt8} (h : l.take 4 = [a, b, c, d]) : l[0]? = some a ∧ l[1]? = some b ∧ l[2]? = some c ∧ l[3]? = some d := by
  have e : ∀ i, i < 4 → l[i]? = ([a, b, c, d] : List UInt8)[i]? := by
    intro i hi
    rw [← h, List.getElem?_take, if_pos hi]
  exact ⟨e 0 (by omega), e 1 (by omega), e 2 (by omega), e 3 (by omega)⟩
/-- a whole array or struct, of a guarded operation that is wanted -/
theorem wp_ldg {P : Program} {w : World} {ops : Array Oper} {rest : List Oper} {o : Oper} {a : Act} {Q : Exit → Act → World → Prop} (ty : TypeId) (x : Operand) (hw : Region.wanted o (yielded ops a.tmps) = true) (ho : o.op = .load ty x) {b f : Nat} (hx : a.eval x = .pointer (some ⟨b, f, none⟩)) {l : List Value} (hr : w.rangeAt b f l)
    {d : TypeDesc} (hu : P.underlying ty = some d) (hd : d.isRow = true) (hi : (P.info? ty).map (·.size) = some l.length)
    (h : wpList P ops Q rest (a.put o.dst (.agg l.toArray)) w) : wpList P ops Q (o :: rest) a w := by
  refine wpList_step fun K hK => ?_
  rw [if_pos hw]
  exact wp_load_mid ty x ho b f hx l d hr hu hd hi (hK _ _ h)
/-- a literal's bytes, in a new block (marked or not) -/
theorem rdLit (w : World) (t : TypeId) (fr : Nat × Nat) (arr : Array Value) (bs : List UInt8) (h : arr = (bvs bs).toArray) (n : Nat) (hn : bs.length = n) (hm : n ≤ maxLen) : Rd (w.alloc (.cells arr t fr)) (fun _ => True) (.slice (some ⟨w.heap.size, 0, none⟩) n n) (bys bs) := by
  subst hn h
  unfold bys Rd
  refine ⟨_, _, rfl, Nat.le_refl _, hm, fun h0 => by rw [List.eq_nil_of_length_eq_zero h0]; rfl, fun _ => ⟨_, _, rfl, trivial, RdC.of_bytes fun j u hu => ?_⟩⟩
  have hh : (w.alloc (.cells (bvs bs).toArray t fr)).heap[w.heap.size]? = some (.cells (bvs bs).toArray t fr) := heap_alloc_new w _
  rw [Nat.zero_add]
  simp only [World.cell?, hh]
  simpa using hu
/-- the address of an element that is s cells wide -/
theorem wp_ixa {P : Program} {w : World} {ops : Array Oper} {rest : List Oper} {o : Oper} {a : Act} {Q : Exit → Act → World → Prop} (t : TypeId) (x y : Operand) (hgd : o.guard = none) (ho : o.op = .indexAddr t x y) {g off n c : Nat} (hx : a.eval x = .slice (some ⟨g, off, none⟩) n c) {i : Nat} (hy : a.eval y = .int .i64 (i : Int))
    {e : TypeId} (hu : P.underlying t = some (.slice e)) (hi : i < n) {s : Nat} (hsz : (P.info? e).map (·.size) = some s)
    (h : wpList P ops Q rest (a.put o.dst (.pointer (some ⟨g, off + i * s, none⟩))) w) : wpList P ops Q (o :: rest) a w := by
  refine wpList_plain hgd fun K hK => ?_
  cases hq : P.info? e with
  | none => simp [hq] at hsz
  | some f =>
    have hs : f.size = s := by simpa [hq] using hsz
    have h1 : (0 : Int) ≤ (i : Int) ∧ (i : Int) < (n : Int) := by omega
    have hr : (Instr.indexAt t (.slice (some ⟨g, off, none⟩) n c) (.int .i64 (i : Int))).run P w = .ok (.pointer (some ⟨g, off + i * s, none⟩)) w := by
      simp [Instr.indexAt, asIntOf, run_underlying hu, sizeOf, typeInfo, hq, hs, h1, add_mk]
      intro hh
      exact absurd hh (by omega)
    unfold Oper.wp execOp
    simp only [ho, hx, hy, Sem.run_bind, Sem.run_pure, hr, Result.andThen_ok]
    exact hK _ _ h
/-- the same, in a region that draws its order -/
theorem yi_ixa {P : Program} {ops : Array Oper} {S : World → Prop} {o : Oper} {a : Act} (hw : Region.wanted o (yielded ops a.tmps) = true) (t : TypeId) (x y : Operand) (ho : o.op = .indexAddr t x y) {g off n c : Nat} (hx : a.eval x = .slice (some ⟨g, off, none⟩) n c) {i : Nat} (hy : a.eval y = .int .i64 (i : Int))
    {e : TypeId} (hu : P.underlying t = some (.slice e)) (hi : i < n) {s : Nat} (hsz : (P.info? e).map (·.size) = some s) : YieldsIf P ops S o (.pointer (some ⟨g, off + i * s, none⟩)) a := by
  refine .inl ⟨hw, fun w _ => ?_⟩
  cases hq : P.info? e with
  | none => simp [hq] at hsz
  | some f =>
    have hs : f.size = s := by simpa [hq] using hsz
    have h1 : (0 : Int) ≤ (i : Int) ∧ (i : Int) < (n : Int) := by omega
    have hr : (Instr.indexAt t (.slice (some ⟨g, off, none⟩) n c) (.int .i64 (i : Int))).run P w = .ok (.pointer (some ⟨g, off + i * s, none⟩)) w := by
      simp [Instr.indexAt, asIntOf, run_underlying hu, sizeOf, typeInfo, hq, hs, h1, add_mk]
      intro hh
      exact absurd hh (by omega)
    unfold execOp
    simp only [ho, hx, hy, Sem.run_bind, Sem.run_pure, hr, Result.andThen_ok]
end Go.V
