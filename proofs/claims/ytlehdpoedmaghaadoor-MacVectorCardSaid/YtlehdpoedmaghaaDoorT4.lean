/- T4: layer 3: contract of Vector. -/
import Derived.Test.YtlehdpoedmaghaaDoorT3
namespace Go.V
open Go.RowKit
theorem flat_at (z : List Value) (hz : 0 < z.length) : ∀ (n j : Nat), ((List.replicate n z).flatten)[j]? = if j < n * z.length then z[j % z.length]? else none
  | 0, j => by simp
  | n + 1, j => by
    rw [List.replicate_succ, List.flatten_cons]
    by_cases h : j < z.length
    · rw [List.getElem?_append_left h, Nat.mod_eq_of_lt h, if_pos (by rw [Nat.succ_mul]; omega)]
    · rw [List.getElem?_append_right (by omega), flat_at z hz n, show j % z.length = (j - z.length) % z.length from (Nat.mod_eq_sub_mod (by omega))]
      congr 1
      rw [Nat.succ_mul]
      exact propext ⟨fun h => by omega, fun h => by omega⟩
theorem madeCells_flat (z : List Value) (hz : 0 < z.length) : ∀ n : Nat, (madeCells z.toArray (n * z.length)).toList = (List.replicate n z).flatten := by
  intro n
  apply List.ext_getElem?
  intro j
  rw [flat_at z hz n j]
  unfold madeCells
  by_cases hj : j < n * z.length
  · rw [if_pos hj]
    simp [hj, List.getElem?_eq_getElem (Nat.mod_lt j hz)]
  · rw [if_neg hj]
    simp [hj]
theorem run_mkA {P : Program} {t e : TypeId} {z : List Value} (hs : P.underlying t = some (.slice e)) (hi : (P.info? e).map (fun i => (i.zero, i.size, i.bytes)) = some (some (.agg z.toArray), z.length, z.length)) (hz : 0 < z.length) (n : Nat) (hb : z.length * n ≤ 281474976710656) (hm : n ≤ maxLen) (W : World) :
    (Instr.makeSlice t (.int .i64 (n : Int)) (.int .i64 (n : Int))).run P W = .ok (.slice (some ⟨W.heap.size, 0, none⟩) n n) (W.alloc (.cells (List.replicate n z).flatten.toArray e)) := by
  obtain ⟨i, hi1, h2, h3, h4⟩ := info_parts hi
  have h63 : (n : Int) ≤ 9223372036854775807 := by simp [maxLen] at hm; omega
  have hb' : (i.bytes : Int) * (n : Int) ≤ 281474976710656 := by
    have : ((i.bytes * n : Nat) : Int) ≤ 281474976710656 := by rw [h4]; omega
    rwa [Int.natCast_mul] at this
  have hr := run_make (P := P) W t e i (.agg z.toArray) hs hi1 h2 .i64 .i64 n n (by omega) (Int.le_refl _) hb' h63
  rw [hr]
  simp only [Int.toNat_natCast, h3]
  congr 3
  apply Array.ext'
  rw [show (Value.agg z.toArray).cells = z.toArray from rfl, madeCells_flat z hz]
theorem wp_mkA {P : Program} {w : World} {ops : Array Oper} {rest : List Oper} {o : Oper} {a : Act} {Q : Exit → Act → World → Prop} {t e : TypeId} {z : List Value} (hs : P.underlying t = some (.slice e)) (hi : (P.info? e).map (fun i => (i.zero, i.size, i.bytes)) = some (some (.agg z.toArray), z.length, z.length)) (hz : 0 < z.length) (x y : Operand) (hgd : o.guard = none) (ho : o.op = .makeSlice t x y) (n : Nat)
    (hx : a.eval x = .int .i64 (n : Int)) (hy : a.eval y = .int .i64 (n : Int)) (hb : z.length * n ≤ 281474976710656) (hm : n ≤ maxLen) (l : List Value) (hl : l = (List.replicate n z).flatten)
    (h : wpList P ops Q rest (a.put o.dst (.slice (some ⟨w.heap.size, 0, none⟩) n n)) (w.alloc (.cells l.toArray e))) : wpList P ops Q (o :: rest) a w := by
  refine wpList_plain hgd fun K hK => ?_
  subst hl
  unfold Oper.wp execOp
  simp only [ho, hx, hy, Sem.run_bind, Sem.run_pure, run_mkA hs hi hz n hb hm, Result.andThen_ok]
  exact hK _ _ h
end Go.V
namespace Go.Proofs.YtlehdpoedmaghaaDoor
open Go.RowKit Go.V
/-- the first i tags, the rest noughts -/
def vecC (keys : List (List UInt8)) (text : List UInt8) (n i : Nat) : List Value := bvs ((keys.take i).map fun k => tagF k text).flatten ++ zs8 (32 * (n - i))
theorem flatten_len32 (l : List (List UInt8)) (h : ∀ x ∈ l, x.length = 32) : l.flatten.length = 32 * l.length := by
  induction l with
  | nil => rfl
  | cons x l ih =>
    rw [List.flatten_cons, List.length_append, h x (by simp), ih (fun y hy => h y (by simp [hy])), List.length_cons]
    omega
theorem vecF_len (keys : List (List UInt8)) (text : List UInt8) (i : Nat) (hi : i ≤ keys.length) : (((keys.take i).map fun k => tagF k text).flatten).length = 32 * i := by
  rw [flatten_len32 _ (by intro x hx; obtain ⟨k, _, rfl⟩ := List.mem_map.1 hx; exact len_tag _ _)]
  simp; omega
theorem vecC_len (keys : List (List UInt8)) (text : List UInt8) (n i : Nat) (hi : i ≤ n) (hn : n ≤ keys.length) : (vecC keys text n i).length = 32 * n := by
  rw [vecC, List.length_append, len_bvs, vecF_len _ _ _ (by omega)]
  simp [zs8]; omega
theorem vecC_set (keys : List (List UInt8)) (text : List UInt8) (n i : Nat) (hi : i < n) (k : List UInt8) (hk : keys[i]? = some k) :
    (vecC keys text n i).take (i * 32) ++ bvs (tagF k text) ++ (vecC keys text n i).drop (i * 32 + (bvs (tagF k text)).length) = vecC keys text n (i + 1) := by
  obtain ⟨hlt, he⟩ := List.getElem?_eq_some_iff.1 hk
  have hl : (bvs ((keys.take i).map fun k => tagF k text).flatten).length = i * 32 := by rw [len_bvs, vecF_len _ _ _ (by omega)]; omega
  have e1 : bvs ((keys.take (i + 1)).map fun k => tagF k text).flatten = bvs ((keys.take i).map fun k => tagF k text).flatten ++ bvs (tagF k text) := by
    rw [List.take_succ_eq_append_getElem hlt, he]
    simp [bvs]
  unfold vecC
  rw [e1, len_bvs, len_tag, List.take_append_of_le_length (by omega), List.take_of_length_le (by omega), List.drop_append, List.drop_of_length_le (by omega), List.nil_append, hl, show i * 32 + 32 - i * 32 = 32 from by omega]
  congr 1
  unfold zs8
  rw [List.drop_replicate]
  congr 1
  omega
theorem zs_flat : ∀ n : Nat, zs8 (32 * n) = (List.replicate n (zs8 32)).flatten
  | 0 => rfl
  | n + 1 => by
    rw [List.replicate_succ, List.flatten_cons, ← zs_flat n]
    unfold zs8
    rw [List.replicate_append_replicate]
    congr 1
    omega
set_option maxRecDepth 100000 in
set_option maxHeartbeats 1000000 in
theorem vector_any (kv tv : Value) (keys : List (List UInt8)) (text : List UInt8) (F G : Nat → Prop) (w : World) (hK : KS w) (hk : Rd w F kv (tx keys)) (ht : Rd w G tv (bys text)) (hn : ∀ k ∈ keys, k.length ≤ 17592186044416) (hc : keys.length ≤ 1000) (hm : text.length ≤ 17592186044416) :
    Calls Tryd.prog 12 #[kv, tv] w fun e w' => ∃ g, e = .returned (.slice (some ⟨g, 0, none⟩) keys.length keys.length) ∧ w.heap.size ≤ g ∧ Blk w' g 25 (bvs (keys.map fun k => tagF k text).flatten) ∧ Below w.heap.size w w' := by
  have hk := hk.weak (F' := fun b => b < w.heap.size) (fun b hb _ => hb)
  have ht := ht.weak (F' := fun b => b < w.heap.size) (fun b hb _ => hb)
  unfold tx at hk
  obtain ⟨A, c, rfl, hc1, hc2⟩ := hk.slShape
  obtain ⟨A2, c2, rfl⟩ := ht.shape
  go_enter Tryd.func12, Tryd.ntmps12
  go_wp2_with (refine wp_mkA (z := zs8 32) Tryd.underlying30 (by kernel_rfl) (by simp [zs8]) (.tmp 9) (.tmp 9) rfl rfl keys.length rfl rfl (by simp [zs8]; omega) (by simp only [maxLen]; omega) (zs8 (32 * keys.length)) (zs_flat _) ?_)
  obtain ⟨n, hn'⟩ : ∃ n, n = keys.length := ⟨_, rfl⟩
  rw [← hn'] at hc hc1 hk ⊢
  have Hn := hid hn'
  clear hn'
  have b := Blk.new' w 25 (zs8 (32 * n))
  have hB := (Below.refl w.heap.size w).alloc (Nat.le_refl _) (.cells (zs8 (32 * n)).toArray 25)
  obtain ⟨w0, hw0⟩ : ∃ w0, w0 = w.alloc (.cells (zs8 (32 * n)).toArray 25) := ⟨_, rfl⟩
  rw [← hw0] at b hB ⊢
  clear hw0
  go_loopw [13] (fun iv wr => ∃ i : Nat, i ≤ n ∧ iv = .int .i64 i ∧ Blk wr w.heap.size 25 (vecC keys text n i) ∧ Below w.heap.size w wr) (fun iv _ => n - (intOf iv).toNat)
  case atStart => exact ⟨0, by omega, rfl, by simpa [vecC, bvs] using b, hB⟩
  case round =>
    obtain ⟨i, hi, rfl, hb, hB⟩ := hrel
    by_cases hil : i < n
    · obtain ⟨ki, hki⟩ : ∃ t, keys[i]? = some t := ⟨_, List.getElem?_eq_getElem (by rw [← Hn.out]; exact hil)⟩
      obtain ⟨g, off, u, rfl, hgl, hcu, hru⟩ := (hk.below hB).elem i (bys ki) (by rw [List.getElem?_map, hki]; rfl)
      have hsi := hn ki (List.mem_of_getElem? hki)
      have hst := hid (vecC_set keys text n i hil ki hki)
      have hlen := hid (vecC_len keys text n i hi (by rw [Hn.out]; exact Nat.le_refl _))
      clear hki
      go_wp2_with (fail)
      refine (tag_any _ _ ki text _ _ _ (hK.below hB) hru (ht.below hB) hsi hm).mono ?_
      rintro e w3 ⟨rfl, hB3⟩
      obtain ⟨r, hr⟩ : ∃ r, r = tagF ki text := ⟨_, rfl⟩
      rw [← hr]
      rw [← hr] at hst
      have hrl : Hid (r.length = 32) := by show _ = _; rw [hr]; exact len_tag _ _
      clear hr
      have hb3 := hb.below hB3
      have hB3' := hB.trans (hB3.mono hB.size)
      have hbl := hb3.lt
      go_wp2_with (first | (refine wp_ixa 30 (.tmp 18) (.tmp 19) rfl rfl rfl rfl Tryd.underlying30 hil size25 ?_) | (refine wp_st 25 (.tmp 23) (.tmp 22) rfl rfl rfl (f := i * 32) (by rw [Nat.zero_add]; rfl) (l := bvs r) rfl hb3 (by rw [hlen.out, len_bvs, hrl.out]; omega) (by rw [len_bvs, hrl.out]; exact size25) (oneCell_bvs _) ?_; intro w7 hb7 hG7))
      rw [hst.out] at hb7
      exact ⟨⟨i + 1, by omega, by go_num, hb7, hB3'.grown hG7 hB3'.size (by intro k hk; injection hk with hk; omega)⟩, by simp [intOf]; omega⟩
    · have hin : i = keys.length := by rw [← Hn.out]; omega
      have e : vecC keys text n i = bvs (keys.map fun k => tagF k text).flatten := by
        unfold vecC
        rw [hin, ← Hn.out, Nat.sub_self, List.take_of_length_le (by rw [Hn.out]; exact Nat.le_refl _)]
        simp [zs8]
      rw [e] at hb
      clear hin e
      go_wp2
      go_ret
      exact ⟨w.heap.size, by rw [← Hn.out]; rfl, Nat.le_refl _, hb, hB⟩
end Go.Proofs.YtlehdpoedmaghaaDoor
