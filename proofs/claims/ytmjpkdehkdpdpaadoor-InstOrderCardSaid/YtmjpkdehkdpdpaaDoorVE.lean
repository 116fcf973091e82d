/- VE: laws of arrays whose elements are arrays or structs; copies that end with the target; an empty slice with room. No project text. -/
import Derived.Test.YtmjpkdehkdpdpaaDoorVA
namespace Go.V
open Go.RowKit
/-- 'copy(d, s)', d no longer than s, d at offset off of a block that is known whole -/
theorem wp_copyT {P : Program} {w : World} {ops : Array Oper} {rest : List Oper} {o : Oper} {a : Act} {Q : Exit → Act → World → Prop} (d s : Operand) {t e : TypeId} {z : Value} {by_ : Nat} (ht : SlT P t e z by_) (hgd : o.guard = none)
    (ho : o.op = .call { callee := .builtin .copy, args := #[d, s], argTypes := #[t, t] })
    {g off D cd : Nat} (hd : a.eval d = .slice (some ⟨g, off, none⟩) D cd) {A : Option Addr} {L c : Nat} (hs : a.eval s = .slice A L c)
    {t' : TypeId} {cs : List Value} (hb : Blk w g t' cs) {news : List Value} (hsrc : Src w A L news) (h1 : ∀ u ∈ news, u.oneCell' = true) (hLD : D ≤ L) (hD : 0 < D) (hfit : off + D ≤ cs.length)
    (h : ∀ w', Blk w' g t' (splice cs off (news.take D)) → w.grownBy w' (some g) → wpList P ops Q rest (a.put o.dst (goInt D)) w') :
    wpList P ops Q (o :: rest) a w := by
  obtain ⟨i, hi, _, hsz, _⟩ := ht.inf
  have hz : (P.info? e).map (·.size) = some 1 := by rw [hi]; simp [hsz]
  have hl := hsrc.1
  have hlt : (news.take D).length = D := by rw [List.length_take]; omega
  cases A with
  | none => have := hsrc.none0.1; omega
  | some ad =>
    refine wpList_copy_own hgd d s t t ho e ht.sl hz g off _ _ ad _ _ hd hs cs.toArray t' hb (news.take D) (by rw [hlt]; simp [Nat.min_def]; omega) (fun j u hu => hsrc.at j u (by rw [List.getElem?_take] at hu; split at hu; exact hu; cases hu)) (by rw [hlt]; simpa using hfit) (fun u hu => h1 u (List.mem_of_mem_take hu)) ?_
    have := h (w.setRow g (cs.take off ++ ((news.take D) ++ cs.drop (off + (news.take D).length))).toArray) (by unfold splice; exact hb.row _) (grown_setRow w g _)
    simpa [hlt] using this
section
variable {P : Program} {w : World} {ops : Array Oper} {rest : List Oper} {o : Oper} {a : Act} {Q : Exit → Act → World → Prop}
/-- the address of an element, s cells wide, of an array that a pointer points at -/
theorem wp_ixp (t : TypeId) (x y : Operand) (hgd : o.guard = none) (ho : o.op = .indexAddr t x y) {g off n : Nat} (hx : a.eval x = .pointer (some ⟨g, off, none⟩)) {i : Nat} (hy : a.eval y = .int .i64 (i : Int))
    {e : TypeId} (hu : P.underlying t = some (.array n e)) (hi : i < n) {s : Nat} (hsz : (P.info? e).map (·.size) = some s)
    (h : wpList P ops Q rest (a.put o.dst (.pointer (some ⟨g, off + i * s, none⟩))) w) : wpList P ops Q (o :: rest) a w := by
  refine wpList_plain hgd fun K hK => ?_
  cases hq : P.info? e with
  | none => simp [hq] at hsz
  | some f =>
    have hs : f.size = s := by simpa [hq] using hsz
    have h1 : (0 : Int) ≤ (i : Int) ∧ (i : Int) < (n : Int) := by omega
    have hr : (Instr.indexAt t (.pointer (some ⟨g, off, none⟩)) (.int .i64 (i : Int))).run P w = .ok (.pointer (some ⟨g, off + i * s, none⟩)) w := by
      simp [Instr.indexAt, asIntOf, run_underlying hu, sizeOf, typeInfo, hq, hs, h1, add_mk, Instr.sureAddr]
      intro hh
      exact absurd hh (by omega)
    unfold Oper.wp execOp
    simp only [ho, hx, hy, Sem.run_bind, Sem.run_pure, hr, Result.andThen_ok]
    exact hK _ _ h
/-- an element, s cells wide, of an array value -/
theorem wp_idxW (t : TypeId) (x y : Operand) (hgd : o.guard = none) (ho : o.op = .index t x y) {l : List Value} (hx : a.eval x = .agg l.toArray) {k : Nat} (hy : a.eval y = .int .i64 (k : Int))
    {n : Nat} {e : TypeId} (hu : P.underlying t = some (.array n e)) (hn : k < n) (hag : ∀ W : World, (isAgg e).run P W = .ok true W) {s : Nat} (hsz : (P.info? e).map (·.size) = some s)
    (h : wpList P ops Q rest (a.put o.dst (.agg ((l.drop (k * s)).take s).toArray)) w) : wpList P ops Q (o :: rest) a w := by
  refine wpList_plain hgd fun K hK => ?_
  cases hq : P.info? e with
  | none => simp [hq] at hsz
  | some i =>
    have hi : i.size = s := by simpa [hq] using hsz
    have hr : (Instr.index t (.agg l.toArray) (.int .i64 (k : Int))).run P w = .ok (.agg ((l.drop (k * s)).take s).toArray) w := by
      simp [Instr.index, asIntOf, run_underlying hu, sizeOf, typeInfo, hq, hi, hn, part, hag]
    unfold Oper.wp execOp
    simp only [ho, hx, hy, Sem.run_bind, Sem.run_pure, hr, Result.andThen_ok]
    exact hK _ _ h
end
theorem i64_and15 (n : Int) : bits .and .i64 n 15 = n % 16 := by
  show IntKind.i64.wrap ((BitVec.ofInt 64 n &&& BitVec.ofInt 64 15).toNat : Int) = n % 16
  have e : (BitVec.ofInt 64 n &&& BitVec.ofInt 64 15).toNat = (n % 16).toNat := by
    rw [BitVec.toNat_and, show (BitVec.ofInt 64 15).toNat = 2 ^ 4 - 1 from rfl, Nat.and_two_pow_sub_one_eq_mod, BitVec.toNat_ofInt]
    omega
  rw [e, IntKind.wrap_i64]
  omega
/-- a whole block, laid in from its head -/
theorem set_all (cs l : List Value) (h : cs.length = l.length) : cs.take 0 ++ l ++ cs.drop (0 + l.length) = l := by
  rw [List.take_zero, List.nil_append, List.drop_of_length_le (by omega), List.append_nil]
theorem splice_all (cs l : List Value) (h : cs.length = l.length) : splice cs 0 l = l := by
  unfold splice
  rw [List.take_zero, List.nil_append, List.drop_of_length_le (by omega), List.append_nil]
end Go.V
