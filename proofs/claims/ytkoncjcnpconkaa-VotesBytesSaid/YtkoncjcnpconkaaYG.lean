/- YG: several texts in one. -/
import Derived.Test.YtkoncjcnpconkaaYC
import Derived.Defers
import Derived.Recover
import Derived.Laws.Pointers
/- YG: layer 8: contracts of wire: must, whole. -/
namespace Go.V
open Go.RowKit
theorem set_next {l Z : List Value} {n : Nat} (hl : l.length = n) (hn : n < Z.length) (v : Value) : (l ++ Z.drop n).set n v = (l ++ [v]) ++ Z.drop (n + 1) := by
  subst hl
  rw [List.set_append_right _ _ (Nat.le_refl _), Nat.sub_self, List.drop_eq_getElem_cons hn, List.set_cons_zero, List.append_assoc]
  rfl
theorem set37 {m : Mg} (hh : m.h.length = 32) (u v w : Value) : (m.l u v).set 37 w = m.l w v := by
  have : (bvs m.h ++ [u, v]).set 32 w = bvs m.h ++ [w, v] := by
    rw [List.set_append_right _ _ (by simp [bvs, hh])]; simp [bvs, hh]
  simpa [Mg.l] using this
theorem set38 {m : Mg} (hh : m.h.length = 32) (u v w : Value) : (m.l u v).set 38 w = m.l u w := by
  have : (bvs m.h ++ [u, v]).set 33 w = bvs m.h ++ [u, w] := by
    rw [List.set_append_right _ _ (by simp [bvs, hh])]; simp [bvs, hh]
  simpa [Mg.l] using this
theorem run_mkG {P : Program} {t e : TypeId} {z : Value} {by_ : Nat} (ht : SlT P t e z by_) (hz : z.cells = #[z]) (n : Nat) (hb : by_ * n ≤ 281474976710656) (hm : n ≤ maxLen) (W : World) :
    (Instr.makeSlice t (.int .i64 (n : Int)) (.int .i64 (n : Int))).run P W = .ok (.slice (some ⟨W.heap.size, 0, none⟩) n n) (W.alloc (.cells (List.replicate n z).toArray e)) := by
  obtain ⟨i, hi, hzz, hsz, hby⟩ := ht.inf
  have h63 : (n : Int) ≤ 9223372036854775807 := by simp [maxLen] at hm; omega
  have hb' : (i.bytes : Int) * (n : Int) ≤ 281474976710656 := by
    have : ((i.bytes * n : Nat) : Int) ≤ 281474976710656 := by rw [hby]; omega
    rwa [Int.natCast_mul] at this
  have hr := run_make (P := P) W t e i z ht.sl hi hzz .i64 .i64 n n (by omega) (Int.le_refl _) hb' h63
  rw [hr]
  simp only [Int.toNat_natCast, hsz, Nat.mul_one, hz]
  congr 3
  apply Array.ext
  · simp [madeCells]
  · intro j h1 h2
    simp [madeCells, Nat.mod_one]
theorem wp_mkG {P : Program} {w : World} {ops : Array Oper} {rest : List Oper} {o : Oper} {a : Act} {Q : Exit → Act → World → Prop} {t e : TypeId} {z : Value} {by_ : Nat} (ht : SlT P t e z by_) (hz : z.cells = #[z]) (x y : Operand) (hgd : o.guard = none) (ho : o.op = .makeSlice t x y) (n : Nat)
    (hx : a.eval x = .int .i64 (n : Int)) (hy : a.eval y = .int .i64 (n : Int)) (hb : by_ * n ≤ 281474976710656) (hm : n ≤ maxLen)
    (h : ∀ w', Blk w' w.heap.size e (List.replicate n z) → Below w.heap.size w w' → wpList P ops Q rest (a.put o.dst (.slice (some ⟨w.heap.size, 0, none⟩) n n)) w') : wpList P ops Q (o :: rest) a w := by
  refine wpList_plain hgd fun K hK => ?_
  unfold Oper.wp execOp
  simp only [ho, hx, hy, Sem.run_bind, Sem.run_pure, run_mkG ht hz n hb hm, Result.andThen_ok]
  exact hK _ _ (h _ (Blk.new' w e _) ((Below.refl _ _).alloc (Nat.le_refl _) _))
theorem tx_blk {w : World} {F : Nat → Prop} {g c : Nat} {t : TypeId} {us : List Value} {ts : List (List UInt8)} (hb : Blk w g t us) (hF : F g) (hx : TxX w F ts us) (hc : ts.length = c) (hm : c ≤ maxLen) : Rd w F (.slice (some ⟨g, 0, none⟩) c c) (tx ts) := by
  subst hc
  unfold tx Rd
  refine ⟨_, ts.length, rfl, Nat.le_refl _, hm, fun h => by rw [List.eq_nil_of_length_eq_zero h]; rfl, fun _ => ⟨g, 0, rfl, hF, RdC.mk (us := us) hb (by rw [List.length_map, hx.len]) (fun i u h => by rw [Nat.zero_add]; exact h) (fun i u d hu hd => ?_)⟩⟩
  rw [List.getElem?_map] at hd
  cases ht : ts[i]? with
  | none => rw [ht] at hd; cases hd
  | some x =>
    rw [ht] at hd
    simp at hd
    subst hd
    exact hx.at_ i u x hu ht
end Go.V
namespace Go.Proofs.Ytkoncjcnpconkaa
open Go.RowKit Go.V
def errP (k : Nat) : PanicEntry := { v := .iface 31 (.int .i64 (k : Int)), recovered := false }
theorem fldR_lt : ∀ (ns : List Nat) (_ : ∀ n ∈ ns, okN (n : Int) ∧ n ≤ 2) (k : Nat) (X : List UInt8) (xs : List Nat), fldR ns k X = .ok xs → ∀ x ∈ xs, x < 65536
  | [], _, k, X, xs, h => by
    simp only [fldR, Except.ok.injEq] at h
    subst h
    intro x hx
    cases hx
  | n :: ns, hn, k, X, xs, h => by
    obtain ⟨ho, h2⟩ := hn n (by simp)
    simp only [fldR] at h
    cases h3 : fixRd (n : Int) (X.drop k) with
    | error e => rw [h3] at h; cases h
    | ok y =>
      rw [h3] at h
      dsimp only at h
      cases h4 : fldR ns (k + n) X with
      | error e => rw [h4] at h; cases h
      | ok ys =>
        rw [h4] at h
        dsimp only at h
        injection h with h
        subst h
        intro x hx
        rcases List.mem_cons.1 hx with rfl | hx
        · have := (fixRd_ok ho h3).2.2
          have : 256 ^ n ≤ 65536 := by
            rcases ho with h | h | h | h
            · rw [show n = 1 from by omega]; omega
            · rw [show n = 2 from by omega]; omega
            · omega
            · omega
          omega
        · exact fldR_lt ns (fun m hm => hn m (by simp [hm])) (k + n) X ys h4 x hx
theorem sizeI8 : (Try.prog.info? 3).map (·.size) = some 1 := by kernel_rfl
theorem szs8_at (i : Nat) (h : i < 5) : szs8 = szs8.take i ++ fsz i :: szs8.drop (i + 1) ∧ szs8.take (i + 1) = szs8.take i ++ [fsz i] ∧ (szs8.take i).sum = soff i := by
  match i, h with
  | 0, _ => decide
  | 1, _ => decide
  | 2, _ => decide
  | 3, _ => decide
  | 4, _ => decide
theorem szs8_at2 : ∀ j : Fin 32, szs8 = szs8.take (5 + j.val) ++ 1 :: szs8.drop (5 + j.val + 1) ∧ szs8.take (5 + j.val + 1) = szs8.take (5 + j.val) ++ [1] ∧ (szs8.take (5 + j.val)).sum = 8 + j.val := by decide +kernel
theorem rdM_f {X : List UInt8} {e : Nat} (h : fldR szs8 0 X = .error e) : rdM X = .error e := by
  unfold rdM; rw [h]
theorem szs8_all : szs8.take (5 + 32) = szs8 := by decide
theorem szs8_ok : ∀ n ∈ szs8, okN (n : Int) ∧ n ≤ 2 := by
  intro n hn
  unfold szs8 at hn
  simp only [List.cons_append, List.nil_append, List.mem_cons, List.mem_replicate] at hn
  rcases hn with rfl | rfl | rfl | rfl | rfl | ⟨_, rfl⟩
  all_goals exact ⟨by unfold okN; omega, by omega⟩
theorem mkM_in {xs : List Nat} {b : List UInt8} {ps : List (List UInt8)} (h : ∀ x ∈ xs, x < 65536) (hl : xs.length = 37) : MgIn (mkM xs b ps) := by
  have e : ∀ i, i < 37 → in64w ((xs.getD i 0 : Nat) : Int) := fun i hi => by
    have hi' : i < xs.length := by omega
    have := h (xs.getD i 0) (by rw [List.getD_eq_getElem?_getD, List.getElem?_eq_getElem hi']; exact List.getElem_mem hi')
    unfold in64w
    omega
  exact ⟨e 0 (by omega), e 1 (by omega), e 2 (by omega), e 3 (by omega), e 4 (by omega), by simp [mkM, hl]⟩
/-- what whole leaves -/
def WholeP (p : Nat) (w : World) (r : Except Nat Mg) (e : Ending) (w' : World) : Prop := match r with
  | .ok m => (∃ ub up, e = .returned (m.val ub up) ∧ Rd w' (fun b => w.heap.size ≤ b) ub (bys m.b) ∧ Rd w' (fun b => w.heap.size ≤ b) up (tx m.ps)) ∧ Ch (only p) w w'
  | .error k => e = .panicked [errP k] ∧ Ch (only p) w w'
theorem RdR.weakF {w : World} {p : Nat} {F : Nat → Prop} {bs : List UInt8} {k : Nat} (h : RdR w p F bs k) : RdR w p (fun b => F b ∧ b < w.heap.size) bs k := by
  obtain ⟨v, h1, h2, h3, h4⟩ := h
  exact ⟨v, h1, h2.weak (fun b hb hf => ⟨hf, hb⟩), h3, fun h => h4 h.1⟩
end Go.Proofs.Ytkoncjcnpconkaa
/- YH: layer 8: contracts of wire: read (panic, recover, defer), Get. -/
namespace Go.Proofs.Ytkoncjcnpconkaa
open Go.RowKit Go.V
theorem assertE (k : Int) (W : World) : (Instr.typeAssert (.iface 31 (.int .i64 k)) 20 31 false).run Try.prog W = .ok (.int .i64 k) W := by kernel_rfl
theorem rdM_h {X : List UInt8} {m : Mg} (h : rdM X = .ok m) : m.h.length = 32 := by
  unfold rdM at h
  cases h1 : fldR szs8 0 X with
  | error e => rw [h1] at h; cases h
  | ok xs =>
    have hl := fldR_len _ _ _ _ h1
    rw [h1] at h
    dsimp only at h
    cases h2 : textR 65536 (X.drop 40) with
    | error e => rw [h2] at h; cases h
    | ok r =>
      obtain ⟨n, z⟩ := r
      rw [h2] at h
      dsimp only at h
      cases h3 : cntR 16 (readPk (X.drop (40 + (z + n)))) with
      | error e => rw [h3] at h; cases h
      | ok r =>
        obtain ⟨c, y⟩ := r
        rw [h3] at h
        dsimp only at h
        cases h4 : prtR c (40 + (z + n) + y) X with
        | error e => rw [h4] at h; cases h
        | ok r =>
          obtain ⟨ts, k⟩ := r
          rw [h4] at h
          dsimp only at h
          split at h
          · cases h
          · split at h
            · injection h with h
              rw [← h]
              simp [mkM, hl, szs8]
            · cases h
theorem sizeE8 : (Try.prog.info? 31).map (·.size) = some 1 := by kernel_rfl
theorem one_zM8 : ∀ v ∈ zM, v.oneCell' = true := by
  intro v hv
  simp only [zM, zs8, List.mem_cons, List.mem_append, List.mem_replicate] at hv
  rcases hv with rfl | rfl | rfl | rfl | rfl | ⟨_, rfl⟩ | rfl | rfl | hv
  all_goals first | rfl | cases hv
/-- what read and Get leave -/
def ReadP (w : World) (r : Except Nat Mg) (e : Ending) (w' : World) : Prop := match r with
  | .ok m => (∃ ub up, e = .returned (.tuple #[m.val ub up, .int .i64 0]) ∧ Rd w' (fun b => w.heap.size ≤ b) ub (bys m.b) ∧ Rd w' (fun b => w.heap.size ≤ b) up (tx m.ps)) ∧ Below w.heap.size w w'
  | .error k => e = .returned (.tuple #[.agg zM.toArray, .int .i64 (k : Int)]) ∧ Below w.heap.size w w'
theorem errM_bd {m : Mg} (he : errM m = 0) : m.ps.length ≤ 16 ∧ numB m = true := by
  unfold errM at he
  split at he
  · cases he
  · split at he
    · exact ⟨by omega, by assumption⟩
    · cases he
end Go.Proofs.Ytkoncjcnpconkaa
