/- S4: contracts of the mixer's put and end. -/
import Derived.Test.YtigojjdoacfdgaaS3
import Derived.Test.YtigojjdoacfdgaaSP
import Derived.Deep.RegionHeld3
namespace Go.Proofs.Ytigojjdoacfdgaa
open Go.RowKit Go.V

/-- the cells of a mixer -/
def mixC (s : S8) (blk : List UInt8) (n : Nat) : List Value := wvs (s8l s) ++ (bvs blk ++ [.int .u64 (n : Int)])
theorem wvs8 (s : S8) : (wvs (s8l s)).length = 8 := by simp [len_wvs, s8l]
theorem mixC_len (s : S8) (blk : List UInt8) (n : Nat) (h : blk.length = 64) : (mixC s blk n).length = 73 := by simp [mixC, len_wvs, len_bvs, h, s8l]
theorem mixC_size (s : S8) (blk : List UInt8) (n : Nat) (h : blk.length = 64) : (mixC s blk n)[72]? = some (.int .u64 (n : Int)) := by
  unfold mixC
  rw [List.getElem?_append_right (by rw [wvs8]; omega), wvs8, List.getElem?_append_right (by rw [len_bvs]; omega), len_bvs, h]
  rfl
theorem mixC_st (s : S8) (blk : List UInt8) (n : Nat) : ∀ j v, (wvs (s8l s))[j]? = some v → (mixC s blk n)[0 + j]? = some v := by
  intro j v h
  have hj := (List.getElem?_eq_some_iff.1 h).1
  unfold mixC
  rw [Nat.zero_add, List.getElem?_append_left hj]
  exact h
theorem mixC_blk (s : S8) (blk : List UInt8) (n : Nat) : ∀ j v, (bvs blk)[j]? = some v → (mixC s blk n)[8 + j]? = some v := by
  intro j v h
  have hj := (List.getElem?_eq_some_iff.1 h).1
  unfold mixC
  rw [List.getElem?_append_right (by rw [wvs8]; omega), wvs8, show 8 + j - 8 = j from by omega, List.getElem?_append_left hj]
  exact h
theorem mixC_copy (s : S8) (blk x : List UInt8) (n m : Nat) (hb : blk.length = 64) (h : m + x.length ≤ 64) :
    (mixC s blk n).take (8 + m) ++ bvs x ++ (mixC s blk n).drop (8 + m + x.length) = mixC s (blk.take m ++ x ++ blk.drop (m + x.length)) n := by
  unfold mixC
  rw [List.take_append, wvs8, List.take_of_length_le (by rw [wvs8]; omega), show 8 + m - 8 = m from by omega, List.take_append_of_le_length (by rw [len_bvs]; omega),
    List.drop_append, wvs8, List.drop_of_length_le (by rw [wvs8]; omega), show 8 + m + x.length - 8 = m + x.length from by omega, List.drop_append_of_le_length (by rw [len_bvs]; omega)]
  simp [bvs]
theorem mixC_size_set (s : S8) (blk : List UInt8) (n k : Nat) (hb : blk.length = 64) : (mixC s blk n).set 72 (.int .u64 (k : Int)) = mixC s blk k := by
  unfold mixC
  rw [List.set_append_right _ _ (by rw [wvs8]; omega), wvs8, List.set_append_right _ _ (by rw [len_bvs]; omega), len_bvs, hb]
  rfl
theorem mixC_st_set (s t : S8) (blk : List UInt8) (n : Nat) : (mixC s blk n).take 0 ++ wvs (s8l t) ++ (mixC s blk n).drop (0 + (wvs (s8l t)).length) = mixC t blk n := by
  unfold mixC
  rw [wvs8, List.drop_append, wvs8, List.drop_of_length_le (by rw [wvs8]; omega)]
  simp

def lenV : Value → Nat
  | .slice _ n _ => n
  | _ => 0

/-- 'copy(d, s)', d a piece of a block that is known whole -/
theorem wp_cp {P : Program} {w : World} {ops : Array Oper} {rest : List Oper} {o : Oper} {a : Act} {Q : Exit → Act → World → Prop} (d s : Operand) {t e : TypeId} {z : Value} {by_ : Nat} (ht : SlT P t e z by_) (hgd : o.guard = none)
    (ho : o.op = .call { callee := .builtin .copy, args := #[d, s], argTypes := #[t, t] })
    {g f L cap : Nat} (hd : a.eval d = .slice (some ⟨g, f, none⟩) L cap) {A : Option Addr} {m c : Nat} (hs : a.eval s = .slice A m c)
    {u : TypeId} {cs : List Value} (hg : Blk w g u cs) {news : List Value} (hsrc : Src w A m news) (h1 : ∀ u ∈ news, u.oneCell' = true) (hpos : 0 < m) (k : Nat) (hk : k = min m L) (hfit : f + k ≤ cs.length)
    (h : ∀ w', Blk w' g u (cs.take f ++ news.take k ++ cs.drop (f + k)) → w.grownBy w' (some g) → wpList P ops Q rest (a.put o.dst (goInt ((k : Nat) : Int))) w') :
    wpList P ops Q (o :: rest) a w := by
  obtain ⟨i, hi, _, hsz, _⟩ := ht.inf
  have hz : (P.info? e).map (·.size) = some 1 := by rw [hi]; simp [hsz]
  cases A with
  | none =>
    obtain ⟨rfl, rfl⟩ := hsrc.none0
    omega
  | some ad =>
    have hl := hsrc.1
    have hln : (news.take k).length = k := by rw [List.length_take]; omega
    refine wpList_plain hgd fun K hK => ?_
    have hr := run_copy_row (P := P) w t t o.type e g f L cap ad m c cs.toArray u (news.take k) ht.sl hz hg (hln.trans hk)
      (fun j v hv => hsrc.at j v (by
        have hj := (List.getElem?_eq_some_iff.1 hv).1
        rw [List.getElem?_take, if_pos (by omega)] at hv
        exact hv)) (by rw [hln]; simpa using hfit) (fun v hv => h1 v (List.mem_of_mem_take hv))
    unfold Oper.wp execOp
    simp only [ho, resolve, invoke, builtin, Sem.run_bind, Sem.run_pure, Result.andThen_ok, List.map_toArray, List.map_cons, List.map_nil, hd, hs, hr]
    rw [hln]
    have := h _ (hg.row _) (grown_setRow w g _)
    exact hK _ _ this

end Go.Proofs.Ytigojjdoacfdgaa
