/- AN: layer 15: contracts of execs over the landed code: First; what Do's walk wants. -/
import Derived.Test.YtfjgfaccfjdklaaAK
import Derived.Test.YtfjgfaccfjdklaaAH
namespace Go.Proofs.Ytfjgfaccfjdklaa
open Go.RowKit Go.V
/-- what the code keeps of the values' cells: no number where there is no value -/
def OKC (c : List Cl) : Prop := ZC c
theorem okc_zero : OKC (List.replicate 16 zC) := zc_zero
def zRq : List Value := [.int .i64 0, .int .i64 0, .int .i64 0, .int .i64 0, .int .i64 0, .int .i64 0, .slice none 0 0]
theorem zeroQd15 : (Try.prog.info? 47).map (·.zero) = some (some (.agg zRq.toArray)) := by kernel_rfl
theorem sizeQd15 : (Try.prog.info? 47).map (·.size) = some 7 := by kernel_rfl
def zRpv : List Value := [.int .i64 0, .int .i64 0, .int .i64 0, .bool false, .int .i64 0]
theorem slRpd15 : SlW Try.prog 40 35 zRpv 5 40 := .of Try.underlying40 (by kernel_rfl) rfl (by omega) (by omega)
theorem bldRp15 (c s k : Int) (o : Bool) (n : Int) : ∀ W : World, (Instr.build 35 #[(0, .int .i64 c), (1, .int .i64 s), (2, .int .i64 k), (3, .agg #[.bool o, .int .i64 n])]).run Try.prog W = .ok (.agg #[.int .i64 c, .int .i64 s, .int .i64 k, .bool o, .int .i64 n]) W := fun _ => by kernel_rfl
theorem one_rp (r : Rp) : ∀ v ∈ r.l, v.oneCell' = true := by
  intro v hv
  simp only [Rp.l, List.mem_cons, List.not_mem_nil, or_false] at hv
  rcases hv with rfl | rfl | rfl | rfl | rfl <;> rfl
theorem one_rqd (r : Rq) (A : Option Addr) (n c : Nat) : ∀ v ∈ r.l (.slice A n c), v.oneCell' = true := by
  intro v hv
  simp only [Rq.l, List.mem_cons, List.not_mem_nil, or_false] at hv
  rcases hv with rfl | rfl | rfl | rfl | rfl | rfl | rfl <;> rfl
def fW (v : Vw) (i : Nat) : Wo := ⟨0, 1, v, v, List.replicate 16 zC, (List.range 6).map (fun c => if c < i then zRp c else zRp 0)⟩
theorem fW_next (v : Vw) (i : Nat) (h : i < 6) : (fW v i).l.set (38 + i * 5) (.int .i64 (i : Int)) = (fW v (i + 1)).l := by
  match i, h with
  | 0, _ => rfl
  | 1, _ => rfl
  | 2, _ => rfl
  | 3, _ => rfl
  | 4, _ => rfl
  | 5, _ => rfl
  | i + 6, h => exact absurd h (by omega)
theorem fW_len (v : Vw) (i : Nat) : (fW v i).l.length = 68 := by
  have h1 : (cvs (fW v i).c).length = 32 := by rw [len_cvs]; rfl
  have h2 := len_ras (fW v i).a
  have h3 : (fW v i).a.length = 6 := by show ((List.range 6).map _).length = 6; simp
  rw [h3] at h2
  unfold ras at h2
  simp only [Wo.l, List.length_append, List.length_cons, List.length_nil, h1, h2]
theorem bldW1 (n : Int) (m : Int) : ∀ W : World, (Instr.build 38 #[(1, .int .i64 1), (2, .agg #[.int .i64 n, .int .u16 m]), (3, .agg #[.int .i64 n, .int .u16 m])]).run Try.prog W = .ok (.agg (([.int .i64 0, .int .i64 1, .int .i64 n, .int .u16 m, .int .i64 n, .int .u16 m] ++ (cvs (List.replicate 16 zC) ++ ras ((List.range 6).map (fun _ => zRp 0))) : List Value)).toArray) W := fun _ => by kernel_rfl
set_option maxRecDepth 100000 in
set_option maxHeartbeats 8000000 in
theorem efirst15_any (v : Vw) (w : World) (hv : i64s v.n ∧ v.m < 65536) :
    Calls Try.prog 8 #[.agg v.l.toArray] w fun e w' => e = .returned (.agg (firstW v).l.toArray) ∧ Below w.heap.size w w' := by
  obtain ⟨W0, hW0, b1, b2, hB⟩ := alloc2 w 28 38 v.l zWo.l
  obtain ⟨n, m⟩ := v
  have HF : Hid (firstW ⟨n, m⟩ = fW ⟨n, m⟩ 6) := by show _ = _; rfl
  clear hv
  go_enter Try.func8, Try.ntmps8
  go_wp2_with (first | (refine wp_new 38 rfl rfl zeroWo ?_; refine wp_stop ?_))
  rw [← hW0]
  clear hW0
  obtain ⟨g2, hg2⟩ : ∃ g, g = w.heap.size + 1 := ⟨_, rfl⟩
  rw [← hg2] at b2 ⊢
  obtain ⟨g1, hg1⟩ : ∃ g, g = w.heap.size := ⟨_, rfl⟩
  rw [← hg1] at b1 ⊢
  have hw1 : w.heap.size ≤ g1 := by omega
  have h12 : g1 < g2 := by omega
  clear hg1 hg2
  refine wp_go ?_
  go_wp2_with (first | refine wp_ld 28 (.tmp 1) rfl rfl rfl b1.whole Try.underlying28 rfl sizeV ?_ | refine wp_bld 38 [(1, .const (.int .i64 1)), (2, .tmp 5), (3, .tmp 6)] rfl rfl [(1, .int .i64 1), (2, .agg #[.int .i64 n, .int .u16 (m : Int)]), (3, .agg #[.int .i64 n, .int .u16 (m : Int)])] rfl (bldW1 n m) ?_ | (refine wp_newst 38 3 (.tmp 7) rfl rfl rfl rfl rfl rfl zeroWo (l := (fW ⟨n, m⟩ 0).l) rfl (by rw [len_zWo, fW_len]) (by rw [fW_len]; exact sizeW15) (one_wo _) (by simp [Act.put]) ?_; intro w1 b3 hB1 hs1; refine wp_stop ?_))
  have b2' := b2.lt
  have b2 := b2.below hB1
  have hB := hB.trans (hB1.mono hB.size)
  obtain ⟨g3, hg3⟩ : ∃ g, g = W0.heap.size := ⟨_, rfl⟩
  rw [← hg3] at b3 b2' ⊢
  clear hB1 hs1 hg3 b1
  refine wp_go ?_
  go_wp2
  go_loopw [8] (fun iv wr => ∃ i : Nat, i ≤ 6 ∧ iv = .int .i64 i ∧ Blk wr g3 38 (fW ⟨n, m⟩ i).l ∧ Blk wr g2 38 zWo.l ∧ Below w.heap.size w wr) (fun i _ => 6 - (intOf i).toNat)
  case atStart => exact ⟨0, by omega, rfl, b3, b2, hB⟩
  case round =>
    clear b3 b2 hB
    obtain ⟨i, hi, rfl, b3, b2, hB⟩ := hrel
    by_cases hlt : i < 6
    · have hI : (i : Int) < 6 := by omega
      have Hnx := hid (fW_next ⟨n, m⟩ i hlt)
      have Hln := hid (fW_len ⟨n, m⟩ i)
      obtain ⟨Wi, hWi⟩ : ∃ q, q = fW ⟨n, m⟩ i := ⟨_, rfl⟩
      rw [← hWi] at b3 Hnx Hln
      clear hWi
      go_wp2_with (first | refine wp_ixp 36 (.tmp 13) (.tmp 11) rfl rfl rfl rfl Try.underlying36 hlt sizeR15 ?_ | (refine wp_st1 3 (.tmp 15) (.tmp 12) rfl rfl rfl (f := 38 + i * 5) rfl (v := .int .i64 (i : Int)) rfl b3 (by rw [Hln.out]; omega) sizeIk15 rfl rfl ?_; intro w2 k3 G2; refine wp_stop ?_))
      rw [Hnx.out] at k3
      have b2 := b2.keep (G2.block _ b2.lt (by intro e; injection e with e; omega))
      have hB := hB.grown G2 hB.size (by intro k hk; injection hk with hk; omega)
      refine wp_go ?_
      go_wp2
      go_roundw
      case rel => exact ⟨i + 1, by omega, by go_num, k3, b2, hB⟩
      case measure => simp [intOf]; omega
    · have hi' : i = 6 := by omega
      subst hi'
      have hI : ¬ (6 : Int) < 6 := by omega
      rw [← HF.out] at b3
      have HL : Hid ((firstW ⟨n, m⟩).l.length = 68) := by show _ = _; rw [HF.out]; exact fW_len _ _
      have Ho : Hid (∀ v ∈ (firstW ⟨n, m⟩).l, v.oneCell' = true) := one_wo _
      obtain ⟨V, hV⟩ : ∃ q, q = firstW ⟨n, m⟩ := ⟨_, rfl⟩
      rw [← hV] at b3 HL Ho
      have HV := hid hV
      clear hV HF
      go_wp2_with (first | refine wp_ld 38 (.tmp 3) rfl rfl rfl b3.whole Try.underlying38 rfl (by rw [HL.out]; exact sizeW15) ?_ | (refine wp_st 38 (.tmp 2) (.tmp 17) rfl rfl rfl (f := 0) rfl (l := V.l) rfl b2 (by rw [HL.out, len_zWo]; omega) (by rw [HL.out]; exact sizeW15) Ho.out ?_; intro w6 k4 G4))
      have k4 := blk_all k4 (by rw [HL.out, len_zWo]; omega)
      have hB := hB.grown G4 hB.size (by intro k hk; injection hk with hk; omega)
      refine ret_cell rfl rfl k4.whole Try.underlying38 rfl (by rw [HL.out]; exact sizeW15) rfl ?_
      exact ⟨by rw [HV.out], hB⟩
theorem do_q {c : List Cl} {o : Ok} (hc : ClIn c) (ho : OkIn o) : i64s (doK (nmF c) o).2.2 := by
  have hx : ∀ i, i64s (((nmF c).getD i none).getD 0) := by
    intro i
    rcases Nat.lt_or_ge i (nmF c).length with h | h
    · have e : (nmF c)[i]? = some (nmF c)[i] := List.getElem?_eq_getElem h
      rw [List.getD_eq_getElem?_getD, e]
      obtain ⟨x, hx, hy⟩ := List.mem_map.1 (List.getElem_mem h)
      show i64s ((nmF c)[i].getD 0)
      rw [show (nmF c)[i] = nmC x from hy.symm]
      unfold nmC
      split
      · exact hc.n x hx
      · exact z64
    · rw [List.getD_eq_getElem?_getD, List.getElem?_eq_none h]
      exact z64
  unfold doK
  split
  · unfold resK
    dsimp only
    split
    · exact hx _
    · split
      · exact hx _
      · split
        · exact w64_in _
        · split
          · split
            · exact ho.b
            · exact hx _
          · exact hx _
  · exact z64
theorem ok_in {a : List Rp} {r : Rq} (hd : dueR a r = true) (h : in64 r.a ∧ in64 r.b) : OkIn (okR r) := by
  unfold dueR rgtO at hd
  simp only [Bool.and_eq_true] at hd
  have hr := hd.1.2
  have hk : 1 ≤ r.k ∧ r.k ≤ 6 ∧ 0 ≤ r.y ∧ r.y ≤ 15 := by
    by_cases e : r.c = 0
    · rw [if_pos e] at hr
      have := of_decide_eq_true hr
      omega
    · rw [if_neg e] at hr
      have := of_decide_eq_true hr
      omega
  refine ⟨?_, ?_, h.1, h.2⟩
  · show i64s r.k
    unfold i64s
    omega
  · show i64s r.y
    unfold i64s
    omega
theorem bat_next {v : Vw} {t : Int} {d : Bt} {l : List Rq} {i : Nat} {r : Rq} (h : l[i]? = some r) : batW v t d (l.take (i + 1)) = stepW v t (batW v t d (l.take i)) r := by
  unfold batW
  rw [List.take_add_one, h, List.foldl_append]
  rfl
theorem own_keep15 {w w' : World} {base : Nat} {e : TypeId} {s : Nat} {v : Value} {n : Nat} {xs : List Value} (h : w.ownsRow base e s v n xs) (hk : ∀ k, k < w.heap.size → v.ownBlock = some k → w'.heap[k]? = w.heap[k]?) : w'.ownsRow base e s v n xs := by
  rcases h.2 with ⟨rfl, h0⟩ | ⟨g, cap, cur, rfl, hg, hh, h1, h2, h3, h4⟩
  · exact ⟨h.1, .inl ⟨rfl, h0⟩⟩
  · exact ⟨h.1, .inr ⟨g, cap, cur, rfl, hg, by rw [hk g (lt_of_block hh) rfl]; exact hh, h1, h2, h3, h4⟩⟩
theorem wdX_any {w w' : World} {l : List Rp} {xs : List Value} (h : WdX w nob rpD l xs) : WdX w' nob rpD l xs := h.keep (fun _ _ h => h.elim)
end Go.Proofs.Ytfjgfaccfjdklaa
