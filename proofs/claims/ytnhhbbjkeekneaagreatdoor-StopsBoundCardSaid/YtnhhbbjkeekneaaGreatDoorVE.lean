/- VE: several texts in one (Y0 VE). -/
import Derived.Test.YtnhhbbjkeekneaaGreatDoorM1
import Derived.Test.YtnhhbbjkeekneaaGreatDoorVA
import Derived.Test.YtnhhbbjkeekneaaGreatDoorRB
import Derived.Stop.BytesEq
import Derived.Deep.DeepCutAuto
/- Y0: several texts in one. -/
/- Y0: layer 8: messages as lists, in memory. No project text. -/
namespace Go.V
open Go.RowKit
structure Mg where
  k : Int
  f : Int
  v : Int
  r : Int
  s : Int
  h : List UInt8
  b : List UInt8
  ps : List (List UInt8)
/-- its cells: body and parts are slices -/
def Mg.l (m : Mg) (ub up : Value) : List Value := .int .i64 m.k :: .int .i64 m.f :: .int .i64 m.v :: .int .i64 m.r :: .int .i64 m.s :: (bvs m.h ++ [ub, up])
def Mg.val (m : Mg) (ub up : Value) : Value := .agg (m.l ub up).toArray
def un (x : Int) : Nat := (x % 18446744073709551616).toNat
theorem un_lt (x : Int) : un x < 18446744073709551616 := by unfold un; omega
theorem un_wrap (x : Int) : IntKind.u64.wrap x = (un x : Int) := by rw [IntKind.wrap_u64]; unfold un; omega
def tb1 (t : List UInt8) : List UInt8 := packed t.length ++ t
def numB (m : Mg) : Bool := decide (1 ≤ m.k ∧ m.k ≤ 12 ∧ 0 ≤ m.f ∧ m.f ≤ 15 ∧ 0 ≤ m.v ∧ m.v ≤ 60 ∧ 0 ≤ m.r ∧ m.r ≤ 40 ∧ 0 ≤ m.s ∧ m.s ≤ 60)
def longB (m : Mg) : Bool := decide (3000 < m.b.length ∨ 20 < m.ps.length ∨ ∃ t ∈ m.ps, 3000 < t.length)
theorem len_mg {m : Mg} (hh : m.h.length = 32) (ub up : Value) : (m.l ub up).length = 39 := by simp [Mg.l, bvs, hh]
theorem mg_body {m : Mg} (hh : m.h.length = 32) (ub up : Value) : (m.l ub up)[37]? = some ub := by
  have : (bvs m.h ++ [ub, up])[32]? = some ub := by rw [List.getElem?_append_right (by simp [bvs, hh])]; simp [bvs, hh]
  simpa [Mg.l] using this
theorem mg_parts {m : Mg} (hh : m.h.length = 32) (ub up : Value) : (m.l ub up)[38]? = some up := by
  have : (bvs m.h ++ [ub, up])[33]? = some up := by rw [List.getElem?_append_right (by simp [bvs, hh])]; simp [bvs, hh]
  simpa [Mg.l] using this
theorem mg_hash {m : Mg} (_hh : m.h.length = 32) (ub up : Value) (j : Nat) (v : Value) (hv : (bvs m.h)[j]? = some v) : (m.l ub up)[5 + j]? = some v := by
  have hj := (List.getElem?_eq_some_iff.1 hv).1
  have : (bvs m.h ++ [ub, up])[j]? = some v := by rw [List.getElem?_append_left hj]; exact hv
  rw [show 5 + j = j + 5 from by omega]
  simpa [Mg.l] using this
theorem one_mg {m : Mg} {A B : Option Addr} {n c k d : Nat} : ∀ v ∈ m.l (.slice A n c) (.slice B k d), v.oneCell' = true := by
  intro v hv
  simp only [Mg.l, List.mem_cons, List.mem_append] at hv
  rcases hv with rfl | rfl | rfl | rfl | rfl | hv | rfl | rfl | hv
  · rfl
  · rfl
  · rfl
  · rfl
  · rfl
  · exact oneCell_bvs _ v hv
  · rfl
  · rfl
  · cases hv
theorem own_join {w : World} {b : Nat} {e : TypeId} {v : Value} {p q : List UInt8} (h : w.ownsRow b e 1 v (p.length + q.length) (bvs p ++ bvs q)) : w.ownsRow b e 1 v (p ++ q).length (bvs (p ++ q)) := by
  rw [List.length_append, show bvs (p ++ q) = bvs p ++ bvs q from by simp [bvs]]
  exact h
theorem long_bd {m : Mg} (h : longB m = false) : m.b.length ≤ 3000 ∧ m.ps.length ≤ 20 ∧ ∀ t ∈ m.ps, t.length ≤ 3000 := by
  unfold longB at h
  rw [decide_eq_false_iff_not] at h
  refine ⟨by omega, by omega, fun t ht => ?_⟩
  rcases Nat.lt_or_ge 3000 t.length with h3 | h3
  · exact absurd (.inr (.inr ⟨t, ht, h3⟩)) h
  · exact h3
theorem len_tb1 {t : List UInt8} (h : t.length ≤ 3000) : (tb1 t).length ≤ 3010 := by
  have := psz_bd t.length
  unfold tb1
  rw [List.length_append, length_packed]
  omega
theorem len_parts : ∀ (ps : List (List UInt8)), (∀ t ∈ ps, t.length ≤ 3000) → (ps.flatMap tb1).length ≤ 3010 * ps.length
  | [], _ => by simp
  | t :: ps, h => by
    rw [List.flatMap_cons, List.length_append, List.length_cons]
    have h1 := len_tb1 (h t (by simp))
    have h2 := len_parts ps (fun x hx => h x (by simp [hx]))
    omega
theorem take_snocT {l : List (List UInt8)} {i : Nat} {r : List UInt8} (h : l[i]? = some r) : l.take (i + 1) = l.take i ++ [r] := by
  rw [List.take_add_one, h]; rfl
def in64w (x : Int) : Prop := -9223372036854775808 ≤ x ∧ x ≤ 9223372036854775807
structure MgIn (m : Mg) : Prop where
  k : in64w m.k
  f : in64w m.f
  v : in64w m.v
  r : in64w m.r
  s : in64w m.s
  h : m.h.length = 32
end Go.V
namespace Go.Proofs.YtnhhbbjkeekneaaGreatDoor
open Go.RowKit Go.V
def Mg.hd (m : Mg) : List UInt8 := ((((fixR 1 (un m.k) ++ fixR 1 (un m.f)) ++ fixR 2 (un m.v)) ++ fixR 2 (un m.r)) ++ fixR 2 (un m.s)) ++ m.h
def Mg.by (m : Mg) : List UInt8 := (((Mg.hd m) ++ (packed m.b.length ++ m.b)) ++ packed m.ps.length) ++ m.ps.flatMap tb1
theorem len_fixR1 (x : Nat) : (fixR 1 x).length = 1 := by unfold fixR; rw [if_pos (by unfold okN; omega)]; simp [fixB]
theorem len_fixR2 (x : Nat) : (fixR 2 x).length = 2 := by unfold fixR; rw [if_pos (by unfold okN; omega)]; simp [fixB]
theorem len_hd {m : Mg} (hh : m.h.length = 32) : (Mg.hd m).length = 40 := by
  unfold Mg.hd
  simp only [List.length_append, len_fixR1, len_fixR2, hh]
theorem sizeM : (Tryz.prog.info? 47).map (·.size) = some 39 := by kernel_rfl
end Go.Proofs.YtnhhbbjkeekneaaGreatDoor
/- Y1: layer 8: contract of the document's Bytes. -/
namespace Go.Proofs.YtnhhbbjkeekneaaGreatDoor
open Go.RowKit Go.V
end Go.Proofs.YtnhhbbjkeekneaaGreatDoor
/- Y2: layer 8: contracts of the document's Numbers, Long. -/
namespace Go.Proofs.YtnhhbbjkeekneaaGreatDoor
open Go.RowKit Go.V
end Go.Proofs.YtnhhbbjkeekneaaGreatDoor
/- Y3: layer 8: contracts of the document's SameParts, Same, Put. -/
namespace Go.Proofs.YtnhhbbjkeekneaaGreatDoor
open Go.RowKit Go.V
def errM (m : Mg) : Nat := if 16 < m.ps.length then 4 else if numB m then 0 else 15
theorem len_by {m : Mg} (hh : m.h.length = 32) (hlo : longB m = false) : (Mg.by m).length ≤ 63260 := by
  obtain ⟨h1, h2, h3⟩ := long_bd hlo
  have h4 := len_parts m.ps h3
  have h5 := psz_bd m.b.length
  have h6 := psz_bd m.ps.length
  unfold Mg.by
  simp only [List.length_append, length_packed, len_hd hh]
  omega
end Go.Proofs.YtnhhbbjkeekneaaGreatDoor
/- Y4: layer 8: contract of the document's Copied. -/
namespace Go.V
open Go.RowKit
end Go.V
namespace Go.V
end Go.V
namespace Go.Proofs.YtnhhbbjkeekneaaGreatDoor
open Go.RowKit Go.V
theorem slBB8 : SlT Tryz.prog 28 33 (.slice none 0 0) 24 := .of Tryz.underlying28 (by kernel_rfl) rfl
theorem sizeSl8 : (Tryz.prog.info? 33).map (·.size) = some 1 := by kernel_rfl
theorem sizeSS8 : (Tryz.prog.info? 28).map (·.size) = some 1 := by kernel_rfl
def zM : List Value := .int .i64 0 :: .int .i64 0 :: .int .i64 0 :: .int .i64 0 :: .int .i64 0 :: (zs8 32 ++ [.slice none 0 0, .slice none 0 0])
theorem zeroM : (Tryz.prog.info? 47).map (·.zero) = some (some (.agg zM.toArray)) := by kernel_rfl
theorem len_zM : zM.length = 39 := by simp [zM, zs8]
end Go.Proofs.YtnhhbbjkeekneaaGreatDoor
/- VE: laws of arrays whose elements are arrays or structs; copies that end with the target; an empty slice with room. No project text. -/
namespace Go.V
open Go.RowKit
/-- 'copy(d, s)', d no longer than s, d at offset off of a block that is known whole -/
theorem wp_copyT {P : Program} {w : World} {ops : Array Oper} {rest : List Oper} {o : Oper} {a : Act} {Q : Exit → Act → World → Prop} (d s : Operand) {t e : TypeId} {z : Value} {by_ : Nat} (ht : SlT P t e z by_) (hgd : o.guard = none)
    (ho : o.op = .call { callee := .builtin .copy, args := #[d, s], argTypes := #[t, t] })
    {g off D cd : Nat} (hd : a.eval d = .slice (some ⟨g, off, none⟩) D cd) {A : Option Addr} {L c : Nat} (hs : a.eval s = .slice A L c)
    {t' : TypeId} {cs : List Value} (hb : Blk w g t' cs) {news : List Value} (hsrc : Src w A L news) (h1 : ∀ u ∈ news, u.oneCell' = true) (hLD : D ≤ L) (hD : 0 < D) (hfit : off + D ≤ cs.length)
    (h : ∀ w', Blk w' g t' (splice cs off (news.take D)) → w.grownBy w' (some g) → wpList P ops Q rest (a.put o.dst (goInt D)) w') :
    wpList P ops Q (o :: rest) a w := by
  obtain ⟨i, hi, _, hsz, _⟩ := ht.inf
  have hz : (P.info? e).map (·.size) = some 1 := by rw [hi]; simp [hsz]
  have hl := hsrc.1
  have hlt : (news.take D).length = D := by rw [List.length_take]; omega
  cases A with
  | none => have := hsrc.none0.1; omega
  | some ad =>
    refine wpList_copy_own hgd d s t t ho e ht.sl hz g off _ _ ad _ _ hd hs cs.toArray t' hb (news.take D) (by rw [hlt]; simp [Nat.min_def]; omega) (fun j u hu => hsrc.at j u (by rw [List.getElem?_take] at hu; split at hu; exact hu; cases hu)) (by rw [hlt]; simpa using hfit) (fun u hu => h1 u (List.mem_of_mem_take hu)) ?_
    have := h (w.setRow g (cs.take off ++ ((news.take D) ++ cs.drop (off + (news.take D).length))).toArray) (by unfold splice; exact hb.row _) (grown_setRow w g _)
    simpa [hlt] using this
section
variable {P : Program} {w : World} {ops : Array Oper} {rest : List Oper} {o : Oper} {a : Act} {Q : Exit → Act → World → Prop}
/-- the address of an element, s cells wide, of an array that a pointer points at -/
theorem wp_ixp (t : TypeId) (x y : Operand) (hgd : o.guard = none) (ho : o.op = .indexAddr t x y) {g off n : Nat} (hx : a.eval x = .pointer (some ⟨g, off, none⟩)) {i : Nat} (hy : a.eval y = .int .i64 (i : Int))
    {e : TypeId} (hu : P.underlying t = some (.array n e)) (hi : i < n) {s : Nat} (hsz : (P.info? e).map (·.size) = some s)
    (h : wpList P ops Q rest (a.put o.dst (.pointer (some ⟨g, off + i * s, none⟩))) w) : wpList P ops Q (o :: rest) a w := by
  refine wpList_plain hgd fun K hK => ?_
  cases hq : P.info? e with
  | none => simp [hq] at hsz
  | some f =>
    have hs : f.size = s := by simpa [hq] using hsz
    have h1 : (0 : Int) ≤ (i : Int) ∧ (i : Int) < (n : Int) := by omega
    have hr : (Instr.indexAt t (.pointer (some ⟨g, off, none⟩)) (.int .i64 (i : Int))).run P w = .ok (.pointer (some ⟨g, off + i * s, none⟩)) w := by
      simp [Instr.indexAt, asIntOf, run_underlying hu, sizeOf, typeInfo, hq, hs, h1, add_mk, Instr.sureAddr]
      intro hh
      exact absurd hh (by omega)
    unfold Oper.wp execOp
    simp only [ho, hx, hy, Sem.run_bind, Sem.run_pure, hr, Result.andThen_ok]
    exact hK _ _ h
/-- an element, s cells wide, of an array value -/
theorem wp_idxW (t : TypeId) (x y : Operand) (hgd : o.guard = none) (ho : o.op = .index t x y) {l : List Value} (hx : a.eval x = .agg l.toArray) {k : Nat} (hy : a.eval y = .int .i64 (k : Int))
    {n : Nat} {e : TypeId} (hu : P.underlying t = some (.array n e)) (hn : k < n) (hag : ∀ W : World, (isAgg e).run P W = .ok true W) {s : Nat} (hsz : (P.info? e).map (·.size) = some s)
    (h : wpList P ops Q rest (a.put o.dst (.agg ((l.drop (k * s)).take s).toArray)) w) : wpList P ops Q (o :: rest) a w := by
  refine wpList_plain hgd fun K hK => ?_
  cases hq : P.info? e with
  | none => simp [hq] at hsz
  | some i =>
    have hi : i.size = s := by simpa [hq] using hsz
    have hr : (Instr.index t (.agg l.toArray) (.int .i64 (k : Int))).run P w = .ok (.agg ((l.drop (k * s)).take s).toArray) w := by
      simp [Instr.index, asIntOf, run_underlying hu, sizeOf, typeInfo, hq, hi, hn, part, hag]
    unfold Oper.wp execOp
    simp only [ho, hx, hy, Sem.run_bind, Sem.run_pure, hr, Result.andThen_ok]
    exact hK _ _ h
end
theorem i64_and15 (n : Int) : bits .and .i64 n 15 = n % 16 := by
  show IntKind.i64.wrap ((BitVec.ofInt 64 n &&& BitVec.ofInt 64 15).toNat : Int) = n % 16
  have e : (BitVec.ofInt 64 n &&& BitVec.ofInt 64 15).toNat = (n % 16).toNat := by
    rw [BitVec.toNat_and, show (BitVec.ofInt 64 15).toNat = 2 ^ 4 - 1 from rfl, Nat.and_two_pow_sub_one_eq_mod, BitVec.toNat_ofInt]
    omega
  rw [e, IntKind.wrap_i64]
  omega
/-- a whole block, laid in from its head -/
theorem set_all (cs l : List Value) (h : cs.length = l.length) : cs.take 0 ++ l ++ cs.drop (0 + l.length) = l := by
  rw [List.take_zero, List.nil_append, List.drop_of_length_le (by omega), List.append_nil]
theorem splice_all (cs l : List Value) (h : cs.length = l.length) : splice cs 0 l = l := by
  unfold splice
  rw [List.take_zero, List.nil_append, List.drop_of_length_le (by omega), List.append_nil]
end Go.V
