/- JX: layer 13: the book in memory; contracts of New, Take. -/
import Derived.Test.YtkoncjcnpconkaaJW
import Derived.Test.YtkoncjcnpconkaaJF
namespace Go.V
open Go.RowKit Go.Proofs
theorem VtSm.of {m : Vt} (h : longV m = false) : VtSm m := by
  obtain ⟨h1, h2, h3⟩ := longV_bd h
  exact ⟨by omega, by omega, fun t ht => by have := h3 t ht; omega⟩
theorem vtIn_of {m : Vt} (h : partsV m = true) : VtIn m := by
  unfold partsV at h
  rw [decide_eq_true_iff] at h
  obtain ⟨h1, h2, h3, h4, _⟩ := h
  exact ⟨⟨by omega, by omega⟩, ⟨by omega, by omega⟩, ⟨by omega, by omega⟩, ⟨by omega, by omega⟩⟩
def regB (l : List Vt) : Int × Int := if (regF l).1 < 0 then (0, 0) else regF l
theorem acc64 {B : List Vt} {S : Int} {L : List (K2 × Vt)} {A : Vt} (h : BkR B S L A) (hf : ∀ m ∈ B, partsV m = true) : in64w A.v ∧ in64w A.r := by
  rw [h.2]
  cases hq : accQ S B with
  | none => exact ⟨⟨by show _ ≤ (0 : Int); omega, by show (0 : Int) ≤ _; omega⟩, ⟨by show _ ≤ (0 : Int); omega, by show (0 : Int) ≤ _; omega⟩⟩
  | some y =>
    rcases accQ_mem B none hq with h | h
    · cases h
    · have := vtIn_of (hf y h)
      exact ⟨this.v, this.r⟩
theorem ent64 {B : List Vt} (hf : ∀ m ∈ B, partsV m = true) : in64w (enF13 B).v ∧ in64w (enF13 B).r := by
  rcases inv_all hf with ⟨h1, _⟩ | ⟨_, h2, _⟩
  · rw [h1]; exact ⟨⟨by show _ ≤ (0 : Int); omega, by show (0 : Int) ≤ _; omega⟩, ⟨by show _ ≤ (0 : Int); omega, by show (0 : Int) ≤ _; omega⟩⟩
  · have := vtIn_of h2
    exact ⟨this.v, this.r⟩
theorem wrF_len {L : List (K2 × Vt)} {s : K2} {m : Vt} : (wrF L s m).length ≤ L.length + 1 := by
  cases hq : findS L s with
  | none => rw [wrF_none hq, woS_none (findS_none hq)]; simp
  | some d => rw [wrF_some hq]; omega
theorem bk_wr {B : List Vt} {S : Int} {L : List (K2 × Vt)} {A m : Vt} {s : K2} (h : BkR B S L A) (hk : m.k = 2) (hs : m.s = S) (h1 : m.v = s.1.1) (h2 : m.r = s.1.2) : BkR (B ++ [m]) S (wrF L s m) A := by
  cases hq : findS L s with
  | none => rw [wrF_none hq]; exact bk_write h hk hs h1.symm h2.symm hq
  | some d => rw [wrF_some hq]; exact bk_again h hk h1.symm h2.symm hq
theorem all_snoc {p : Vt → Prop} {B : List Vt} {m : Vt} (h : ∀ x ∈ B, p x) (hm : p m) : ∀ x ∈ B ++ [m], p x := by
  intro x hx
  rcases List.mem_append.1 hx with hx | hx
  · exact h x hx
  · simp at hx; subst hx; exact hm
end Go.V
namespace Go.Proofs.Ytkoncjcnpconkaa
open Go.RowKit Go.V Go.Maps
theorem err_parts {m : Vt} (h : errV m = 0) : partsV m = true := by
  unfold errV at h
  split at h
  · cases h
  · split at h
    · cases h
    · split at h
      · assumption
      · cases h
/-- a book in memory, by its parts: p the book's block, b the map's -/
structure BkM (w : World) (p b : Nat) (F : Nat → Prop) (B : List Vt) (E : Vt) (S : Int) (L : List (K2 × Vt)) (A : Vt) (eb ep ab ap : Value) : Prop where
  blk : Blk w p 66 (bkL (E.l eb ep) S b (A.l ab ap))
  eb : Rd w F eb (bys E.b)
  ep : Rd w F ep (tx E.ps)
  ab : Rd w F ab (bys A.b)
  ap : Rd w F ap (tx A.ps)
  map : MS wrM w F b L
  rel : BkR B S L A
  ne : p ≠ b
  f : ∀ x, F x → x ≠ p ∧ x ≠ b ∧ x < w.heap.size
  len : L.length ≤ B.length
/-- a book at v, to which B came: M it may write, F it reads beside that -/
def BX (w : World) (v : Value) (M F : Nat → Prop) (B : List Vt) : Prop :=
  ∃ (p b : Nat) (eb ep ab ap : Value) (L : List (K2 × Vt)) (A : Vt), v = .pointer (some ⟨p, 0, none⟩) ∧ BkM w p b F B (enF13 B) (slotF B) L A eb ep ab ap ∧ (∀ x, M x ↔ x = p ∨ x = b) ∧ (∀ m ∈ B, errV m = 0) ∧ B.length ≤ 100001
theorem BkM.keep {w w' : World} {p b : Nat} {F : Nat → Prop} {B : List Vt} {E A : Vt} {S : Int} {L : List (K2 × Vt)} {eb ep ab ap : Value} (h : BkM w p b F B E S L A eb ep ab ap) (hk : ∀ x, x < w.heap.size → x = p ∨ x = b ∨ F x → w'.heap[x]? = w.heap[x]?) (hs : w.heap.size ≤ w'.heap.size) : BkM w' p b F B E S L A eb ep ab ap :=
  have hF : ∀ x, x < w.heap.size → F x → F x ∧ w'.heap[x]? = w.heap[x]? := fun x hx h => ⟨h, hk x hx (.inr (.inr h))⟩
  ⟨h.blk.keep (hk p h.blk.lt (.inl rfl)), h.eb.keep hF, h.ep.keep hF, h.ab.keep hF, h.ap.keep hF, h.map.keep (hk b h.map.lt (.inr (.inl rfl))) hF, h.rel, h.ne, fun x hx => ⟨(h.f x hx).1, (h.f x hx).2.1, Nat.lt_of_lt_of_le (h.f x hx).2.2 hs⟩, h.len⟩
theorem BkM.below {w w' : World} {p b : Nat} {F : Nat → Prop} {B : List Vt} {E A : Vt} {S : Int} {L : List (K2 × Vt)} {eb ep ab ap : Value} (h : BkM w p b F B E S L A eb ep ab ap) (hB : Below w.heap.size w w') : BkM w' p b F B E S L A eb ep ab ap := h.keep (fun x hx _ => hB.block x hx) hB.size
theorem BX.keep {w w' : World} {v : Value} {M F : Nat → Prop} {B : List Vt} (h : BX w v M F B) (hk : ∀ b, b < w.heap.size → M b ∨ F b → w'.heap[b]? = w.heap[b]?) (hs : w.heap.size ≤ w'.heap.size) : BX w' v M F B := by
  obtain ⟨p, b, eb, ep, ab, ap, L, A, hv, hm, hM, he, hl⟩ := h
  exact ⟨p, b, eb, ep, ab, ap, L, A, hv, hm.keep (fun x hx h => hk x hx (by rcases h with h | h | h; exact .inl ((hM x).2 (.inl h)); exact .inl ((hM x).2 (.inr h)); exact .inr h)) hs, hM, he, hl⟩
theorem BX.bd {w : World} {v : Value} {M F : Nat → Prop} {B : List Vt} (h : BX w v M F B) : ∀ b, M b ∨ F b → b < w.heap.size := by
  obtain ⟨p, b, eb, ep, ab, ap, L, A, hv, hm, hM, he, hl⟩ := h
  rintro x (h | h)
  · rcases (hM x).1 h with rfl | rfl
    · exact hm.blk.lt
    · exact hm.map.lt
  · exact (hm.f x h).2.2
theorem BX.ptr {w : World} {v : Value} {M F : Nat → Prop} {B : List Vt} (h : BX w v M F B) : ∃ x, v = .pointer (some ⟨x, 0, none⟩) := by
  obtain ⟨p, b, eb, ep, ab, ap, L, A, hv, _⟩ := h
  exact ⟨p, hv⟩
/-- what a call leaves of a book -/
def BXp (w : World) (M F : Nat → Prop) (v : Value) (B : List Vt) (w' : World) : Prop := ∃ M' F', BX w' v M' F' B ∧ Ch M w w' ∧ (∀ b, M' b → M b ∨ w.heap.size ≤ b) ∧ (∀ b, F' b → F b ∨ M b ∨ w.heap.size ≤ b)
theorem BXp.bel {w0 w w' : World} {M F : Nat → Prop} {v : Value} {B : List Vt} (h : BXp w M F v B w') (hB : Below w0.heap.size w0 w) (hM : ∀ b, M b → w0.heap.size ≤ b) : ∃ M' F', BX w' v M' F' B ∧ Below w0.heap.size w0 w' ∧ (∀ b, M' b → w0.heap.size ≤ b) ∧ Ch M w w' := by
  obtain ⟨M', F', hI, hC, hM', _⟩ := h
  exact ⟨M', F', hI, ⟨hC.os.trans hB.os, hC.tape.trans hB.tape, hC.output.trans hB.output, Nat.le_trans hB.size hC.size, fun k hk => (hC.block k (by have := hB.size; omega) (fun hm => by have := hM k hm; omega)).trans (hB.block k hk)⟩, fun b hb => (hM' b hb).elim (hM b) (fun h => by have := hB.size; omega), hC⟩
theorem BX.below {w w' : World} {v : Value} {M F : Nat → Prop} {B : List Vt} (h : BX w v M F B) (hB : Below w.heap.size w w') : BX w' v M F B := h.keep (fun b hb _ => hB.block b hb) hB.size
theorem BXp.of {w w' : World} {M F F' : Nat → Prop} {B : List Vt} {p b : Nat} {L : List (K2 × Vt)} {A : Vt} {eb ep ab ap : Value} (h : BkM w' p b F' B (enF13 B) (slotF B) L A eb ep ab ap) (hM : ∀ x, M x ↔ x = p ∨ x = b) (he : ∀ m ∈ B, errV m = 0) (hl : B.length ≤ 100001)
    (hC : Ch (fun x => x = p ∨ x = b) w w') (hF : ∀ x, F' x → F x ∨ w.heap.size ≤ x) : BXp w M F (.pointer (some ⟨p, 0, none⟩)) B w' :=
  ⟨M, F', ⟨p, b, eb, ep, ab, ap, L, A, rfl, h, hM, he, hl⟩, hC.weaken (fun x _ h => (hM x).2 h), fun _ h => .inl h, fun x h => (hF x h).elim .inl (fun h => .inr (.inr h))⟩
theorem bldB13 (g : Nat) : ∀ W : World, (Instr.build 66 #[(2, .map (some g))]).run Try.prog W = .ok (.agg (bkL zVl 0 g zVl).toArray) W := fun _ => by kernel_rfl
set_option maxRecDepth 100000 in
set_option maxHeartbeats 2000000 in
theorem bnew13_any (w : World) : Calls Try.prog 16 #[] w fun e w' => ∃ v M F, e = .returned v ∧ BX w' v M F [] ∧ Below w.heap.size w w' ∧ (∀ b, M b ∨ F b → w.heap.size ≤ b) := by
  have hbl := bldB13 w.heap.size
  have hM := MS.made (T := wrM) (w := w) (F := nob)
  have hmm := @run_makeMap Try.prog
  have hB1 : Below w.heap.size w (w.alloc (.map #[] 0)) := (Below.refl _ _).alloc (Nat.le_refl _) _
  have hsz : (w.alloc (.map #[] 0)).heap.size = w.heap.size + 1 := by simp
  have hP := Blk.new' (w.alloc (.map #[] 0)) 66 (bkL zVl 0 w.heap.size zVl)
  have hM2 := hM.below ((Below.refl _ _).alloc (Nat.le_refl _) (.cells (bkL zVl 0 w.heap.size zVl).toArray 66))
  have hB2 := hB1.alloc (by rw [hsz]; omega) (.cells (bkL zVl 0 w.heap.size zVl).toArray 66)
  have hz := (show (Value.agg (bkL zVl 0 w.heap.size zVl).toArray).cells = (bkL zVl 0 w.heap.size zVl).toArray from rfl)
  rw [hsz] at hP
  obtain ⟨l, hl⟩ : ∃ l, l = bkL zVl 0 w.heap.size zVl := ⟨_, rfl⟩
  rw [← hl] at hbl hP hM2 hB2 hz
  have Hl := hid hl
  clear hl hB1 hM hsz
  go_enter Try.func16, Try.ntmps16
  go_wp2_with (first | refine wp_bld 66 [(2, .tmp 1)] rfl rfl [(2, .map (some w.heap.size))] rfl hbl ?_ | go_in)
  go_ret
  have hn1 : ∀ F, Rd ((w.alloc (.map #[] 0)).alloc (.cells l.toArray 66)) F (.slice none 0 0) (bys []) := fun F => Rd.nil _ _
  have hn2 : ∀ F, Rd ((w.alloc (.map #[] 0)).alloc (.cells l.toArray 66)) F (.slice none 0 0) (tx []) := fun F => by
    unfold tx Rd
    exact ⟨none, 0, rfl, Nat.le_refl _, by simp [maxLen], fun _ => rfl, fun h => absurd rfl h⟩
  refine ⟨_, fun x => x = w.heap.size + 1 ∨ x = w.heap.size, nob, rfl, ⟨w.heap.size + 1, w.heap.size, .slice none 0 0, .slice none 0 0, .slice none 0 0, .slice none 0 0, [], zV, rfl, ⟨?_, hn1 _, hn2 _, hn1 _, hn2 _, hM2, bk_nil, by omega, fun x h => h.elim, by simp⟩, fun x => Iff.rfl, (fun m hm => by cases hm), by simp⟩, hB2, ?_⟩
  · show Blk _ _ _ (bkL zVl 0 w.heap.size zVl)
    rw [← Hl.out]
    exact hP
  · rintro x ((h | h) | h)
    · omega
    · omega
    · exact h.elim
set_option maxRecDepth 100000 in
set_option maxHeartbeats 4000000 in
theorem take13_bad (p : Nat) (M F G : Nat → Prop) (B : List Vt) (m : Vt) (ub up : Value) (w : World) (h : BX w (.pointer (some ⟨p, 0, none⟩)) M F B) (hm : VtIn m) (hs : VtSm m) (hub : Rd w G ub (bys m.b)) (hup : Rd w G up (tx m.ps)) (he : errV m ≠ 0) :
    Calls Try.prog 17 #[.pointer (some ⟨p, 0, none⟩), m.val ub up] w fun e w' => e = .returned (.int .i64 15) ∧ BXp w M F (.pointer (some ⟨p, 0, none⟩)) B w' := by
  obtain ⟨AB, cb, rfl⟩ := hub.shape
  obtain ⟨AP, cpp, rfl, _, _⟩ := hup.slShape
  have hrf := fun W h1 h2 => refusal13_any m (.slice AB m.b.length cb) (.slice AP m.ps.length cpp) G G W hm hs h1 h2
  obtain ⟨er, her⟩ : ∃ er, er = errV m := ⟨_, rfl⟩
  rw [← her] at hrf he
  have hlm := len_vt m (.slice AB m.b.length cb) (.slice AP m.ps.length cpp)
  have hl0 : (m.l (.slice AB m.b.length cb) (.slice AP m.ps.length cpp))[0]? = some (.int .i64 m.k) := rfl
  have hl3 : (m.l (.slice AB m.b.length cb) (.slice AP m.ps.length cpp))[3]? = some (.int .i64 m.s) := rfl
  have hdum := True.intro
  unfold Vt.val at hrf ⊢
  obtain ⟨lm, elm⟩ : ∃ l, l = m.l (.slice AB m.b.length cb) (.slice AP m.ps.length cpp) := ⟨_, rfl⟩
  rw [← elm] at hrf hlm hl0 hl3 ⊢
  have Hlm := hid hlm
  have Hrf := hid hrf
  have Her := hid her
  clear elm hlm hrf her
  have hV := Blk.new' w 27 lm
  have hB0 : Below w.heap.size w (w.alloc (.cells lm.toArray 27)) := (Below.refl _ _).alloc (Nat.le_refl _) _
  have hub := hub.below hB0
  have hup := hup.below hB0
  go_enter Try.func17, Try.ntmps17
  go_wp2_with (first | refine wp_ld 27 (.tmp 3) rfl rfl rfl hV.whole Try.underlying27 rfl (by rw [Hlm.out]; exact sizeVt) ?_)
  refine (Hrf.out _ hub hup).mono ?_
  rintro e' w5 ⟨rfl, hB5⟩
  have hV5 := hV.below hB5
  have hub5 := hub.below hB5
  have hup5 := hup.below hB5
  have hB5 := hB0.trans (hB5.mono hB0.size)
  obtain ⟨g, hg⟩ : ∃ g, g = w.heap.size := ⟨_, rfl⟩
  rw [← hg] at hV5 ⊢
  have hgw : w.heap.size ≤ g := by omega
  clear hg hV hub hup hB0 Hrf
  have hne : ((er : Int) != 0) = true := bne_iff_ne.2 (by omega)
  have h5 := h.below hB5
  clear he
  go_wp2
  go_ret
  exact ⟨rfl, M, F, h5, (Ch.refl _ _).belowR hB5, fun b h => .inl h, fun b h => .inl h⟩
set_option maxRecDepth 100000 in
set_option maxHeartbeats 4000000 in
theorem take13_old (p : Nat) (M F G : Nat → Prop) (B : List Vt) (m : Vt) (ub up : Value) (w : World) (h : BX w (.pointer (some ⟨p, 0, none⟩)) M F B) (hm : VtIn m) (hs : VtSm m) (hub : Rd w G ub (bys m.b)) (hup : Rd w G up (tx m.ps)) (he : errV m = 0) (hk : m.k ≠ 1) (ho : m.s < slotF B) :
    Calls Try.prog 17 #[.pointer (some ⟨p, 0, none⟩), m.val ub up] w fun e w' => e = .returned (.int .i64 7) ∧ BXp w M F (.pointer (some ⟨p, 0, none⟩)) B w' := by
  obtain ⟨AB, cb, rfl⟩ := hub.shape
  obtain ⟨AP, cpp, rfl, _, _⟩ := hup.slShape
  have hrf := fun W h1 h2 => refusal13_any m (.slice AB m.b.length cb) (.slice AP m.ps.length cpp) G G W hm hs h1 h2
  obtain ⟨er, her⟩ : ∃ er, er = errV m := ⟨_, rfl⟩
  rw [← her] at hrf he
  have hlm := len_vt m (.slice AB m.b.length cb) (.slice AP m.ps.length cpp)
  have hl0 : (m.l (.slice AB m.b.length cb) (.slice AP m.ps.length cpp))[0]? = some (.int .i64 m.k) := rfl
  have hl3 : (m.l (.slice AB m.b.length cb) (.slice AP m.ps.length cpp))[3]? = some (.int .i64 m.s) := rfl
  have hdum := True.intro
  unfold Vt.val at hrf ⊢
  obtain ⟨lm, elm⟩ : ∃ l, l = m.l (.slice AB m.b.length cb) (.slice AP m.ps.length cpp) := ⟨_, rfl⟩
  rw [← elm] at hrf hlm hl0 hl3 ⊢
  have Hlm := hid hlm
  have Hrf := hid hrf
  have Her := hid her
  clear elm hlm hrf her
  have hV := Blk.new' w 27 lm
  have hB0 : Below w.heap.size w (w.alloc (.cells lm.toArray 27)) := (Below.refl _ _).alloc (Nat.le_refl _) _
  have hub := hub.below hB0
  have hup := hup.below hB0
  go_enter Try.func17, Try.ntmps17
  go_wp2_with (first | refine wp_ld 27 (.tmp 3) rfl rfl rfl hV.whole Try.underlying27 rfl (by rw [Hlm.out]; exact sizeVt) ?_)
  refine (Hrf.out _ hub hup).mono ?_
  rintro e' w5 ⟨rfl, hB5⟩
  have hV5 := hV.below hB5
  have hub5 := hub.below hB5
  have hup5 := hup.below hB5
  have hB5 := hB0.trans (hB5.mono hB0.size)
  obtain ⟨g, hg⟩ : ∃ g, g = w.heap.size := ⟨_, rfl⟩
  rw [← hg] at hV5 ⊢
  have hgw : w.heap.size ≤ g := by omega
  clear hg hV hub hup hB0 Hrf
  have hne : (((er : Nat) : Int) != 0) = false := by rw [he]; rfl
  have kk : (m.k == 1) = false := beq_eq_false_iff_ne.2 hk
  have h5 := h.below hB5
  obtain ⟨p', b, eb, ep, ab, ap, L, A, hv, hbm, hM, hall, hbl⟩ := id h5
  injection hv with hv
  injection hv with hv
  injection hv with hv _ _
  subst hv
  obtain ⟨S, hS⟩ : ∃ S, S = slotF B := ⟨_, rfl⟩
  rw [← hS] at ho hbm
  have c0 := hV5.cellAt 0 _ hl0
  have h5b := hbm
  have H3 : Hid (∀ W, Ch nob w5 W → W.cell? ⟨g, 3, none⟩ = some (.int .i64 m.s)) := fun W hc => (hV5.ch hc (fun h => h)).cellAt 3 _ hl3
  have H38 : Hid (∀ W, Ch nob w5 W → W.cell? ⟨p, 38, none⟩ = some (.int .i64 S)) := fun W hc => (h5b.blk.ch hc (fun h => h)).cellAt 38 _ (bk_at38 (len_vt _ _ _))
  have H5 := hid h5
  clear he hk hS hbm h5 h5b hall hl0 hl3
  go_upto_region 8 with (fail)
  refine wp_region_noPanic ?_
  refine wp_region_held_drew (S := Ch nob w5) (by kernel_rfl) ((Ch.refl _ _).drew) (fun hHeld => ?_)
  refine wpAnyH_take (i := 0) (oi := ⟨some 22, _, _, _, _, none⟩) (v := ?_) rfl (by kernel_rfl) (by kernel_rfl) (by kernel_rfl) (fun _ _ _ h => h) (Or.inl ⟨by rfl, ?_⟩) (by assumption) ?_
  rotate_left
  · intro w hSw; go_simp; try with_reducible rfl
  try simp only [Act.put, List.setIfInBounds_toArray, List.set_cons_zero, List.set_cons_succ]
  refine wpAnyH_take (i := 1) (oi := ⟨some 23, _, _, _, _, none⟩) (v := ?_) rfl (by kernel_rfl) (by kernel_rfl) (by kernel_rfl) (fun _ _ _ h => h) (Or.inl ⟨by rfl, ?_⟩) (by assumption) ?_
  rotate_left
  · intro w hSw; have hcw := H3.out w hSw; go_simp; try with_reducible rfl
  try simp only [Act.put, List.setIfInBounds_toArray, List.set_cons_zero, List.set_cons_succ]
  refine wpAnyH_take (i := 2) (oi := ⟨some 24, _, _, _, _, none⟩) (v := ?_) rfl (by kernel_rfl) (by kernel_rfl) (by kernel_rfl) (fun _ _ _ h => h) (Or.inl ⟨by rfl, ?_⟩) (by assumption) ?_
  rotate_left
  · intro w hSw; go_simp; try with_reducible rfl
  try simp only [Act.put, List.setIfInBounds_toArray, List.set_cons_zero, List.set_cons_succ]
  refine wpAnyH_take (i := 3) (oi := ⟨some 25, _, _, _, _, none⟩) (v := ?_) rfl (by kernel_rfl) (by kernel_rfl) (by kernel_rfl) (fun _ _ _ h => h) (Or.inl ⟨by rfl, ?_⟩) (by assumption) ?_
  rotate_left
  · intro w hSw; go_simp; try with_reducible rfl
  try simp only [Act.put, List.setIfInBounds_toArray, List.set_cons_zero, List.set_cons_succ]
  refine wpAnyH_take (i := 4) (oi := ⟨some 26, _, _, _, _, none⟩) (v := ?_) rfl (by kernel_rfl) (by kernel_rfl) (by kernel_rfl) (fun _ _ _ h => h) (Or.inl ⟨by rfl, ?_⟩) (by assumption) ?_
  rotate_left
  · intro w hSw; go_simp; try with_reducible rfl
  try simp only [Act.put, List.setIfInBounds_toArray, List.set_cons_zero, List.set_cons_succ]
  refine wpAnyH_take (i := 5) (oi := ⟨some 27, _, _, _, _, none⟩) (v := ?_) rfl (by kernel_rfl) (by kernel_rfl) (by kernel_rfl) (fun _ _ _ h => h) (Or.inl ⟨by rfl, ?_⟩) (by assumption) ?_
  rotate_left
  · intro w hSw; have hcw := H38.out w hSw; go_simp; try with_reducible rfl
  try simp only [Act.put, List.setIfInBounds_toArray, List.set_cons_zero, List.set_cons_succ]
  refine wpAnyH_take (i := 6) (oi := ⟨some 28, _, _, _, _, none⟩) (v := ?_) rfl (by kernel_rfl) (by kernel_rfl) (by kernel_rfl) (fun _ _ _ h => h) (Or.inl ⟨by rfl, ?_⟩) (by assumption) ?_
  rotate_left
  · intro w hSw; go_simp; try with_reducible rfl
  try simp only [Act.put, List.setIfInBounds_toArray, List.set_cons_zero, List.set_cons_succ]
  refine wpAnyH_done (by kernel_rfl) ?_ _
  refine NoPanic.normal ?_
  have h6 := H5.out.below hHeld.below
  have hB6 := hB5.trans (hHeld.below.mono hB5.size)
  have H6 := hid h6
  clear h6 H5 H3 H38 hHeld
  go_wp2
  go_ret
  exact ⟨rfl, M, F, H6.out, (Ch.refl _ _).belowR hB6, fun b h => .inl h, fun b h => .inl h⟩
set_option maxRecDepth 100000 in
set_option maxHeartbeats 8000000 in
theorem take13_reg (p : Nat) (M F G : Nat → Prop) (B : List Vt) (m : Vt) (ub up : Value) (w : World) (h : BX w (.pointer (some ⟨p, 0, none⟩)) M F B) (hBl : B.length ≤ 100000) (hm : VtIn m) (hs : VtSm m) (hub : Rd w G ub (bys m.b)) (hup : Rd w G up (tx m.ps)) (hG : ∀ b, G b → ¬ M b) (he : errV m = 0) (hk : m.k = 1) :
    Calls Try.prog 17 #[.pointer (some ⟨p, 0, none⟩), m.val ub up] w fun e w' => e = .returned (.int .i64 0) ∧ BXp w M F (.pointer (some ⟨p, 0, none⟩)) (B ++ [m]) w' := by
  have he' := he
  obtain ⟨p', b, eb, ep, ab, ap, L, A, hv, hbm, hM, hall, hbl⟩ := h
  injection hv with hv
  injection hv with hv
  injection hv with hv _ _
  subst hv
  have hpt : ∀ x ∈ B, partsV x = true := fun x hx => err_parts (hall x hx)
  have h64 := ent64 hpt
  have hen := ent_new (B := B) hk
  have hsl := slot_same (B := B) (m := m) (.inl hk)
  obtain ⟨AE, ce, rfl⟩ := hbm.eb.shape
  obtain ⟨AF, cf, rfl, _, _⟩ := hbm.ep.slShape
  obtain ⟨AA, ca, rfl⟩ := hbm.ab.shape
  obtain ⟨AC, cc, rfl, _, _⟩ := hbm.ap.slShape
  obtain ⟨E, hE⟩ : ∃ E, E = enF13 B := ⟨_, rfl⟩
  obtain ⟨S, hS⟩ : ∃ S, S = slotF B := ⟨_, rfl⟩
  rw [← hE] at hbm h64 hen
  rw [← hS] at hbm hsl
  clear hE hS
  obtain ⟨AB, cb, rfl⟩ := hub.shape
  obtain ⟨AP, cpp, rfl, _, _⟩ := hup.slShape
  have hrf := fun W h1 h2 => refusal13_any m (.slice AB m.b.length cb) (.slice AP m.ps.length cpp) G G W hm hs h1 h2
  obtain ⟨er, her⟩ : ∃ er, er = errV m := ⟨_, rfl⟩
  rw [← her] at hrf he
  have hlm := len_vt m (.slice AB m.b.length cb) (.slice AP m.ps.length cpp)
  have hl0 : (m.l (.slice AB m.b.length cb) (.slice AP m.ps.length cpp))[0]? = some (.int .i64 m.k) := rfl
  have hl3 : (m.l (.slice AB m.b.length cb) (.slice AP m.ps.length cpp))[3]? = some (.int .i64 m.s) := rfl
  have hlt := fun W h1 h2 h3 h4 => later13_any E m (.slice AE E.b.length ce) (.slice AF E.ps.length cf) (.slice AB m.b.length cb) (.slice AP m.ps.length cpp) F G W h64 ⟨hm.v, hm.r⟩ hs h1 h2 h3 h4
  unfold Vt.val at hlt
  unfold Vt.val at hrf ⊢
  obtain ⟨lm, elm⟩ : ∃ l, l = m.l (.slice AB m.b.length cb) (.slice AP m.ps.length cpp) := ⟨_, rfl⟩
  rw [← elm] at hrf hlm hl0 hl3 hlt ⊢
  have Hlm := hid hlm
  have Hrf := hid hrf
  have Her := hid her
  clear elm hlm hrf her
  have hV := Blk.new' w 27 lm
  have hB0 : Below w.heap.size w (w.alloc (.cells lm.toArray 27)) := (Below.refl _ _).alloc (Nat.le_refl _) _
  have hub := hub.below hB0
  have hup := hup.below hB0
  go_enter Try.func17, Try.ntmps17
  go_wp2_with (first | refine wp_ld 27 (.tmp 3) rfl rfl rfl hV.whole Try.underlying27 rfl (by rw [Hlm.out]; exact sizeVt) ?_)
  refine (Hrf.out _ hub hup).mono ?_
  rintro e' w5 ⟨rfl, hB5⟩
  have hV5 := hV.below hB5
  have hub5 := hub.below hB5
  have hup5 := hup.below hB5
  have hB5 := hB0.trans (hB5.mono hB0.size)
  obtain ⟨g, hg⟩ : ∃ g, g = w.heap.size := ⟨_, rfl⟩
  rw [← hg] at hV5 ⊢
  have hgw : w.heap.size ≤ g := by omega
  clear hg hV hub hup hB0 Hrf
  have hne : (((er : Nat) : Int) != 0) = false := by rw [he]; rfl
  have kk : (m.k == 1) = true := beq_iff_eq.2 hk
  have Hk := hid hk
  have Hen := hid hen
  have Hsl := hid hsl
  have Hm0 := hid he'
  have Hpl := hid hbm.blk.lt
  have Hmb := hid hbm.map.lt
  clear he hk hen hsl he' hl3
  have hb5 := hbm.below hB5
  have hP5 := hb5.blk
  have hre5 := hb5.eb
  have hrp5 := hb5.ep
  have c0 := hV5.cellAt 0 _ hl0
  have hFp : ∀ x, F x → ¬ x = p := fun x hx => (hb5.f x hx).1
  have hGp : ∀ x, G x → ¬ x = p := fun x hx e => hG x hx ((hM x).2 (.inl e))
  have hpg : g ≠ p := by have := hbm.blk.lt; omega
  obtain ⟨wd, hwd⟩ : ∃ wd, wd = w5.drew := ⟨_, rfl⟩
  have hBd : Below w5.heap.size w5 wd := by rw [hwd]; exact (Ch.refl nob w5).drew.below
  have hPd := hP5.below hBd
  have hrE : wd.rangeAt p 0 (E.l (.slice AE E.b.length ce) (.slice AF E.ps.length cf)) := hPd.range 0 _ bk_atE
  have hrV : wd.rangeAt g 0 lm := (hV5.below hBd).whole
  have hred := hre5.below hBd
  have hrpd := hrp5.below hBd
  have hubd := hub5.below hBd
  have hupd := hup5.below hBd
  have Hlt := hid hlt
  have Hbl := hid (bk_len (s := S) (b := b) (len_vt E (.slice AE E.b.length ce) (.slice AF E.ps.length cf)) (len_vt A (.slice AA A.b.length ca) (.slice AC A.ps.length cc)))
  clear hlt
  go_wp2
  go_upto_region 6 with (fail)
  refine wp_region_noPanic ?_
  refine wp_region_any (by kernel_rfl) ?_
  change wpAny _ _ _ _ _ _ _ (World.drew _)
  rw [← hwd]
  clear hwd
  refine wpAny_take (i := 0) (oi := ⟨some 13, _, _, _, _, none⟩) (v := ?_) rfl (by kernel_rfl) (by kernel_rfl) (by kernel_rfl) (fun _ _ _ h => h) (Or.inl ⟨by rfl, ?_⟩) ?_
  rotate_left
  · intro w; go_simp; try with_reducible rfl
  try simp only [Act.put, List.setIfInBounds_toArray, List.set_cons_zero, List.set_cons_succ]
  refine wpAny_take (i := 1) (oi := ⟨some 14, _, _, _, _, none⟩) (v := ?_) rfl (by kernel_rfl) (by kernel_rfl) (by kernel_rfl) (fun _ _ _ h => h) (Or.inl ⟨by rfl, ?_⟩) ?_
  rotate_left
  · intro w; go_simp; try with_reducible rfl
  try simp only [Act.put, List.setIfInBounds_toArray, List.set_cons_zero, List.set_cons_succ]
  refine wpAny_take (i := 2) (oi := ⟨some 15, _, _, _, _, none⟩) (v := ?_) rfl (by kernel_rfl) (by kernel_rfl) (by kernel_rfl) (fun _ _ _ h => h) (Or.inl ⟨by rfl, ?_⟩) ?_
  rotate_left
  · intro w; go_simp; try with_reducible rfl
  try simp only [Act.put, List.setIfInBounds_toArray, List.set_cons_zero, List.set_cons_succ]
  refine wpAny_take (i := 3) (oi := ⟨some 16, _, _, _, _, none⟩) (v := ?_) rfl (by kernel_rfl) (by kernel_rfl) (by kernel_rfl) (fun _ _ _ h => h) (Or.inl ⟨by rfl, ?_⟩) ?_
  rotate_left
  · intro w; go_simp; try with_reducible rfl
  try simp only [Act.put, List.setIfInBounds_toArray, List.set_cons_zero, List.set_cons_succ]
  refine wpAny_ready (rs := [4, 5]) (by kernel_rfl) (by simp) ?_
  refine AllReady.cons (o := ⟨some 17, .load _ _, _, _, _, none⟩) rfl (fun K hK => ?_) ?_
  · refine step_ld 27 (.tmp 16) (by rfl) (by rfl) (by rfl) hrE Try.underlying27 rfl (by rw [len_vt]; exact sizeVt) ?_
    refine hK _ _ ?_
    clear hK K
    try simp only [Act.put, List.setIfInBounds_toArray, List.set_cons_zero, List.set_cons_succ]
    refine wpAny_ready (rs := [5]) (by kernel_rfl) (by simp) ?_
    refine AllReady.cons (o := ⟨some 18, .load _ _, _, _, _, none⟩) rfl (fun K hK => ?_) AllReady.nil
    refine step_ld 27 (.tmp 3) (by rfl) (by rfl) (by rfl) hrV Try.underlying27 rfl (by rw [Hlm.out]; exact sizeVt) ?_
    refine hK _ _ ?_
    clear hK K
    try simp only [Act.put, List.setIfInBounds_toArray, List.set_cons_zero, List.set_cons_succ]
    refine wpAny_ready (rs := [6]) (by kernel_rfl) (by simp) ?_
    refine AllReady.cons (o := ⟨some 19, _, _, _, _, none⟩) rfl (fun K hK => ?_) AllReady.nil
    go_simp
    refine (Hlt.out _ hred hrpd hubd hupd).mono ?_
    rintro e' w6 ⟨vb, vp, rfl, hr6, hr7, hB6⟩
    obtain ⟨A6, c6, rfl⟩ := hr6.shape
    obtain ⟨A7, c7, rfl, _, _⟩ := hr7.slShape
    have hP6 := hPd.below hB6
    have hBw6 := hBd.trans (hB6.mono hBd.size)
    have hC6 : Ch (fun x => x = p) w5 w6 := (Ch.refl _ _).belowR hBw6
    refine hK _ _ ?_
    clear hK K
    try simp only [Act.put, List.setIfInBounds_toArray, List.set_cons_zero, List.set_cons_succ]
    refine wpAny_take (i := 7) (oi := ⟨some 20, _, _, _, _, none⟩) (v := ?_) rfl (by kernel_rfl) (by kernel_rfl) (by kernel_rfl) (fun _ _ _ h => h) (Or.inl ⟨by rfl, ?_⟩) ?_
    rotate_left
    · intro w; go_simp; try with_reducible rfl
    try simp only [Act.put, List.setIfInBounds_toArray, List.set_cons_zero, List.set_cons_succ]
    refine wpAny_take (i := 8) (oi := ⟨some 21, _, _, _, _, none⟩) (v := ?_) rfl (by kernel_rfl) (by kernel_rfl) (by kernel_rfl) (fun _ _ _ h => h) (Or.inl ⟨by rfl, ?_⟩) ?_
    rotate_left
    · intro w; go_simp; try with_reducible rfl
    try simp only [Act.put, List.setIfInBounds_toArray, List.set_cons_zero, List.set_cons_succ]
    refine wpAny_ready (rs := [9]) (by kernel_rfl) (by simp) ?_
    refine AllReady.cons (o := ⟨none, _, _, _, _, none⟩) rfl (fun K hK => ?_) AllReady.nil
    refine step_st 27 (.tmp 21) (.tmp 19) (by rfl) (by rfl) (by rfl) (f := 0) (by rfl) (l := (lateF E m).l (.slice A6 (lateF E m).b.length c6) (.slice A7 (lateF E m).ps.length c7)) (by rfl) hP6 (by rw [len_vt, Hbl.out]; omega) (by rw [len_vt]; exact sizeVt) one_vt ?_
    intro w9 hP9 hG9
    refine hK _ _ ?_
    clear hK K
    try simp only [Act.put, List.setIfInBounds_toArray, List.set_cons_zero, List.set_cons_succ]
    refine wpAny_done (by kernel_rfl) ?_ _
    refine NoPanic.normal ?_
    rw [bk_ent0 (len_vt _ _ _) (len_vt _ _ _)] at hP9
    have hC9 := hC6.grow hG9 (fun k hk => .inl (by injection hk with hk; exact hk.symm))
    have h6 := hb5.below hBw6
    have hds := hBd.size
    have hkp : ∀ x, x < w6.heap.size → F x → ((F x ∨ w.heap.size ≤ x) ∧ x < w9.heap.size) ∧ w9.heap[x]? = w6.heap[x]? := fun x hx hF => ⟨⟨.inl hF, Nat.lt_of_lt_of_le hx hG9.size⟩, hG9.block x hx (fun e => by injection e with e; exact hFp x hF e)⟩
    have hkn : ∀ x, x < w6.heap.size → (F x ∨ wd.heap.size ≤ x) → ((F x ∨ w.heap.size ≤ x) ∧ x < w9.heap.size) ∧ w9.heap[x]? = w6.heap[x]? := fun x hx hF => ⟨⟨hF.imp id (fun h => Nat.le_trans hB5.size (Nat.le_trans hds h)), Nat.lt_of_lt_of_le hx hG9.size⟩, hG9.block x hx (fun e => by injection e with e; rcases hF with hF | hF; exact hFp x hF e; have h1 := hP5.lt; omega)⟩
    have hfin : BkM w9 p b (fun x => (F x ∨ w.heap.size ≤ x) ∧ x < w9.heap.size) (B ++ [m]) (lateF E m) S L A (.slice A6 (lateF E m).b.length c6) (.slice A7 (lateF E m).ps.length c7) (.slice AA A.b.length ca) (.slice AC A.ps.length cc) :=
      ⟨hP9, hr6.keep hkn, hr7.keep hkn, h6.ab.keep hkp, h6.ap.keep hkp, h6.map.keep (hG9.block b h6.map.lt (fun e => by injection e with e; exact h6.ne e.symm)) hkp, bk_skip h6.rel Hk.out, h6.ne, fun x hx => ⟨by rintro rfl; rcases hx.1 with h | h; exact (h6.f x h).1 rfl; have := Hpl.out; omega, by rintro rfl; rcases hx.1 with h | h; exact (h6.f x h).2.1 rfl; have := Hmb.out; omega, hx.2⟩, by rw [List.length_append]; have := h6.len; omega⟩
    have Hfin := hid hfin
    have HC9 := hid (Ch.trans (Ch.weaken ((Ch.refl (fun x => x = p) w).belowR hB5) (fun _ _ h => h)) hC9)
    clear hfin hkp hkn h6 hBw6 hds hC9 hP9 hG9 hC6 hP6 hB6 hr6 hr7 hb5 hP5 hre5 hrp5 hub5 hup5 hV5 hBd hPd hrE hrV hred hrpd hubd hupd
    go_wp2
    go_ret
    have h9 := Hfin.out
    rw [← Hen.out, ← Hsl.out] at h9
    exact ⟨by rfl, BXp.of h9 hM (all_snoc hall Hm0.out) (by rw [List.length_append]; simp; omega) (HC9.out.weaken (fun x _ h => .inl h)) (fun x h => h.1)⟩
  refine AllReady.cons (o := ⟨some 18, .load _ _, _, _, _, none⟩) rfl (fun K hK => ?_) AllReady.nil
  refine step_ld 27 (.tmp 3) (by rfl) (by rfl) (by rfl) hrV Try.underlying27 rfl (by rw [Hlm.out]; exact sizeVt) ?_
  refine hK _ _ ?_
  clear hK K
  try simp only [Act.put, List.setIfInBounds_toArray, List.set_cons_zero, List.set_cons_succ]
  refine wpAny_ready (rs := [4]) (by kernel_rfl) (by simp) ?_
  refine AllReady.cons (o := ⟨some 17, .load _ _, _, _, _, none⟩) rfl (fun K hK => ?_) AllReady.nil
  refine step_ld 27 (.tmp 16) (by rfl) (by rfl) (by rfl) hrE Try.underlying27 rfl (by rw [len_vt]; exact sizeVt) ?_
  refine hK _ _ ?_
  clear hK K
  try simp only [Act.put, List.setIfInBounds_toArray, List.set_cons_zero, List.set_cons_succ]
  refine wpAny_ready (rs := [6]) (by kernel_rfl) (by simp) ?_
  refine AllReady.cons (o := ⟨some 19, _, _, _, _, none⟩) rfl (fun K hK => ?_) AllReady.nil
  go_simp
  refine (Hlt.out _ hred hrpd hubd hupd).mono ?_
  rintro e' w6 ⟨vb, vp, rfl, hr6, hr7, hB6⟩
  obtain ⟨A6, c6, rfl⟩ := hr6.shape
  obtain ⟨A7, c7, rfl, _, _⟩ := hr7.slShape
  have hP6 := hPd.below hB6
  have hBw6 := hBd.trans (hB6.mono hBd.size)
  have hC6 : Ch (fun x => x = p) w5 w6 := (Ch.refl _ _).belowR hBw6
  refine hK _ _ ?_
  clear hK K
  try simp only [Act.put, List.setIfInBounds_toArray, List.set_cons_zero, List.set_cons_succ]
  refine wpAny_take (i := 7) (oi := ⟨some 20, _, _, _, _, none⟩) (v := ?_) rfl (by kernel_rfl) (by kernel_rfl) (by kernel_rfl) (fun _ _ _ h => h) (Or.inl ⟨by rfl, ?_⟩) ?_
  rotate_left
  · intro w; go_simp; try with_reducible rfl
  try simp only [Act.put, List.setIfInBounds_toArray, List.set_cons_zero, List.set_cons_succ]
  refine wpAny_take (i := 8) (oi := ⟨some 21, _, _, _, _, none⟩) (v := ?_) rfl (by kernel_rfl) (by kernel_rfl) (by kernel_rfl) (fun _ _ _ h => h) (Or.inl ⟨by rfl, ?_⟩) ?_
  rotate_left
  · intro w; go_simp; try with_reducible rfl
  try simp only [Act.put, List.setIfInBounds_toArray, List.set_cons_zero, List.set_cons_succ]
  refine wpAny_ready (rs := [9]) (by kernel_rfl) (by simp) ?_
  refine AllReady.cons (o := ⟨none, _, _, _, _, none⟩) rfl (fun K hK => ?_) AllReady.nil
  refine step_st 27 (.tmp 21) (.tmp 19) (by rfl) (by rfl) (by rfl) (f := 0) (by rfl) (l := (lateF E m).l (.slice A6 (lateF E m).b.length c6) (.slice A7 (lateF E m).ps.length c7)) (by rfl) hP6 (by rw [len_vt, Hbl.out]; omega) (by rw [len_vt]; exact sizeVt) one_vt ?_
  intro w9 hP9 hG9
  refine hK _ _ ?_
  clear hK K
  try simp only [Act.put, List.setIfInBounds_toArray, List.set_cons_zero, List.set_cons_succ]
  refine wpAny_done (by kernel_rfl) ?_ _
  refine NoPanic.normal ?_
  rw [bk_ent0 (len_vt _ _ _) (len_vt _ _ _)] at hP9
  have hC9 := hC6.grow hG9 (fun k hk => .inl (by injection hk with hk; exact hk.symm))
  have h6 := hb5.below hBw6
  have hds := hBd.size
  have hkp : ∀ x, x < w6.heap.size → F x → ((F x ∨ w.heap.size ≤ x) ∧ x < w9.heap.size) ∧ w9.heap[x]? = w6.heap[x]? := fun x hx hF => ⟨⟨.inl hF, Nat.lt_of_lt_of_le hx hG9.size⟩, hG9.block x hx (fun e => by injection e with e; exact hFp x hF e)⟩
  have hkn : ∀ x, x < w6.heap.size → (F x ∨ wd.heap.size ≤ x) → ((F x ∨ w.heap.size ≤ x) ∧ x < w9.heap.size) ∧ w9.heap[x]? = w6.heap[x]? := fun x hx hF => ⟨⟨hF.imp id (fun h => Nat.le_trans hB5.size (Nat.le_trans hds h)), Nat.lt_of_lt_of_le hx hG9.size⟩, hG9.block x hx (fun e => by injection e with e; rcases hF with hF | hF; exact hFp x hF e; have h1 := hP5.lt; omega)⟩
  have hfin : BkM w9 p b (fun x => (F x ∨ w.heap.size ≤ x) ∧ x < w9.heap.size) (B ++ [m]) (lateF E m) S L A (.slice A6 (lateF E m).b.length c6) (.slice A7 (lateF E m).ps.length c7) (.slice AA A.b.length ca) (.slice AC A.ps.length cc) :=
    ⟨hP9, hr6.keep hkn, hr7.keep hkn, h6.ab.keep hkp, h6.ap.keep hkp, h6.map.keep (hG9.block b h6.map.lt (fun e => by injection e with e; exact h6.ne e.symm)) hkp, bk_skip h6.rel Hk.out, h6.ne, fun x hx => ⟨by rintro rfl; rcases hx.1 with h | h; exact (h6.f x h).1 rfl; have := Hpl.out; omega, by rintro rfl; rcases hx.1 with h | h; exact (h6.f x h).2.1 rfl; have := Hmb.out; omega, hx.2⟩, by rw [List.length_append]; have := h6.len; omega⟩
  have Hfin := hid hfin
  have HC9 := hid (Ch.trans (Ch.weaken ((Ch.refl (fun x => x = p) w).belowR hB5) (fun _ _ h => h)) hC9)
  clear hfin hkp hkn h6 hBw6 hds hC9 hP9 hG9 hC6 hP6 hB6 hr6 hr7 hb5 hP5 hre5 hrp5 hub5 hup5 hV5 hBd hPd hrE hrV hred hrpd hubd hupd
  go_wp2
  go_ret
  have h9 := Hfin.out
  rw [← Hen.out, ← Hsl.out] at h9
  exact ⟨by rfl, BXp.of h9 hM (all_snoc hall Hm0.out) (by rw [List.length_append]; simp; omega) (HC9.out.weaken (fun x _ h => .inl h)) (fun x h => h.1)⟩
set_option maxRecDepth 100000 in
set_option maxHeartbeats 16000000 in
theorem take13_go (p : Nat) (M F G : Nat → Prop) (B : List Vt) (m : Vt) (ub up : Value) (w : World) (h : BX w (.pointer (some ⟨p, 0, none⟩)) M F B) (hBl : B.length ≤ 100000) (hm : VtIn m) (hs : VtSm m) (hub : Rd w G ub (bys m.b)) (hup : Rd w G up (tx m.ps)) (hG : ∀ b, G b → ¬ M b) (he : errV m = 0) (hk : m.k ≠ 1) (ho : slotF B ≤ m.s) :
    Calls Try.prog 17 #[.pointer (some ⟨p, 0, none⟩), m.val ub up] w fun e w' => e = .returned (.int .i64 0) ∧ BXp w M F (.pointer (some ⟨p, 0, none⟩)) (B ++ [m]) w' := by
  have he' := he
  obtain ⟨p', b, eb, ep, ab, ap, L, A, hv, hbm, hM, hall, hbl⟩ := h
  injection hv with hv
  injection hv with hv
  injection hv with hv _ _
  subst hv
  have hpt : ∀ x ∈ B, partsV x = true := fun x hx => err_parts (hall x hx)
  have hf := fine_of (err_parts he)
  have hk3 : ¬ m.k = 2 → m.k = 3 := fun h => by have := hf.k; omega
  have hk1 : 1 < m.k := by have := hf.k; omega
  have hen := ent_same (B := B) hk
  have hsl : slotF (B ++ [m]) = m.s := by
    rcases Int.lt_or_eq_of_le ho with h | h
    · exact slot_new hk1 h
    · rw [slot_same (.inr (by omega)), h]
  obtain ⟨AE, ce, rfl⟩ := hbm.eb.shape
  obtain ⟨AF, cf, rfl, _, _⟩ := hbm.ep.slShape
  obtain ⟨AA, ca, rfl⟩ := hbm.ab.shape
  obtain ⟨AC, cc, rfl, _, _⟩ := hbm.ap.slShape
  have hbeg := fun (h : slotF B < m.s) => bk_begin (B := B) h
  obtain ⟨E, hE⟩ : ∃ E, E = enF13 B := ⟨_, rfl⟩
  obtain ⟨S, hS⟩ : ∃ S, S = slotF B := ⟨_, rfl⟩
  rw [← hE] at hbm hen
  rw [← hS] at hbm ho hbeg
  have Hall := hid hall
  have Hpt := hid hpt
  have Hen := hid hen
  have Hsl := hid hsl
  have Hm0 := hid he'
  have Hbeg := hid hbeg
  have Hk3 := hid hk3
  clear hE hS hf hen hsl he' hall hpt hbeg hk3
  obtain ⟨AB, cb, rfl⟩ := hub.shape
  obtain ⟨AP, cpp, rfl, _, _⟩ := hup.slShape
  have hrf := fun W h1 h2 => refusal13_any m (.slice AB m.b.length cb) (.slice AP m.ps.length cpp) G G W hm hs h1 h2
  obtain ⟨er, her⟩ : ∃ er, er = errV m := ⟨_, rfl⟩
  rw [← her] at hrf he
  have hlm := len_vt m (.slice AB m.b.length cb) (.slice AP m.ps.length cpp)
  have hl0 : (m.l (.slice AB m.b.length cb) (.slice AP m.ps.length cpp))[0]? = some (.int .i64 m.k) := rfl
  have hl3 : (m.l (.slice AB m.b.length cb) (.slice AP m.ps.length cpp))[3]? = some (.int .i64 m.s) := rfl
  have hdum := True.intro
  unfold Vt.val at hrf ⊢
  obtain ⟨lm, elm⟩ : ∃ l, l = m.l (.slice AB m.b.length cb) (.slice AP m.ps.length cpp) := ⟨_, rfl⟩
  rw [← elm] at hrf hlm hl0 hl3 ⊢
  have Hlm := hid hlm
  have Hrf := hid hrf
  have Her := hid her
  have Elm := hid elm
  clear elm hlm hrf her
  have hV := Blk.new' w 27 lm
  have hB0 : Below w.heap.size w (w.alloc (.cells lm.toArray 27)) := (Below.refl _ _).alloc (Nat.le_refl _) _
  have hub := hub.below hB0
  have hup := hup.below hB0
  go_enter Try.func17, Try.ntmps17
  go_wp2_with (first | refine wp_ld 27 (.tmp 3) rfl rfl rfl hV.whole Try.underlying27 rfl (by rw [Hlm.out]; exact sizeVt) ?_)
  refine (Hrf.out _ hub hup).mono ?_
  rintro e' w5 ⟨rfl, hB5⟩
  have hV5 := hV.below hB5
  have hub5 := hub.below hB5
  have hup5 := hup.below hB5
  have hB5 := hB0.trans (hB5.mono hB0.size)
  obtain ⟨g, hg⟩ : ∃ g, g = w.heap.size := ⟨_, rfl⟩
  rw [← hg] at hV5 ⊢
  have hgw : w.heap.size ≤ g := by omega
  clear hg hV hub hup hB0 Hrf
  have hne : (((er : Nat) : Int) != 0) = false := by rw [he]; rfl
  have kk : (m.k == 1) = false := beq_eq_false_iff_ne.2 hk
  have hb5 := hbm.below hB5
  have c0 := hV5.cellAt 0 _ hl0
  have hpg : g ≠ p := by have := hbm.blk.lt; omega
  have hbg : g ≠ b := by have := hbm.map.lt; omega
  have hpl := hbm.blk.lt
  have hml := hbm.map.lt
  have hF1 : ∀ x, F x → x ≠ p ∧ x ≠ b := fun x hx => ⟨(hbm.f x hx).1, (hbm.f x hx).2.1⟩
  have hGp : ∀ x, G x → ¬ (x = p ∨ x = b) := fun x hx e => hG x hx ((hM x).2 e)
  have hC5 : Ch (fun x => x = p ∨ x = b) w w5 := (Ch.refl _ _).belowR hB5
  have H3 : Hid (∀ W, Ch nob w5 W → W.cell? ⟨g, 3, none⟩ = some (.int .i64 m.s)) := fun W hc => (hV5.ch hc (fun h => h)).cellAt 3 _ hl3
  have H38 : Hid (∀ W, Ch nob w5 W → W.cell? ⟨p, 38, none⟩ = some (.int .i64 S)) := fun W hc => (hb5.blk.ch hc (fun h => h)).cellAt 38 _ (bk_at38 (len_vt _ _ _))
  clear he hk hbm
  go_wp2
  clear c0
  go_upto_region 8 with (fail)
  refine wp_region_noPanic ?_
  refine wp_region_held_drew (S := Ch nob w5) (by kernel_rfl) ((Ch.refl _ _).drew) (fun hHeld => ?_)
  refine wpAnyH_take (i := 0) (oi := ⟨some 22, _, _, _, _, none⟩) (v := ?_) rfl (by kernel_rfl) (by kernel_rfl) (by kernel_rfl) (fun _ _ _ h => h) (Or.inl ⟨by rfl, ?_⟩) (by assumption) ?_
  rotate_left
  · intro w hSw; go_simp; try with_reducible rfl
  try simp only [Act.put, List.setIfInBounds_toArray, List.set_cons_zero, List.set_cons_succ]
  refine wpAnyH_take (i := 1) (oi := ⟨some 23, _, _, _, _, none⟩) (v := ?_) rfl (by kernel_rfl) (by kernel_rfl) (by kernel_rfl) (fun _ _ _ h => h) (Or.inl ⟨by rfl, ?_⟩) (by assumption) ?_
  rotate_left
  · intro w hSw; have hcw := H3.out w hSw; go_simp; try with_reducible rfl
  try simp only [Act.put, List.setIfInBounds_toArray, List.set_cons_zero, List.set_cons_succ]
  refine wpAnyH_take (i := 2) (oi := ⟨some 24, _, _, _, _, none⟩) (v := ?_) rfl (by kernel_rfl) (by kernel_rfl) (by kernel_rfl) (fun _ _ _ h => h) (Or.inl ⟨by rfl, ?_⟩) (by assumption) ?_
  rotate_left
  · intro w hSw; go_simp; try with_reducible rfl
  try simp only [Act.put, List.setIfInBounds_toArray, List.set_cons_zero, List.set_cons_succ]
  refine wpAnyH_take (i := 3) (oi := ⟨some 25, _, _, _, _, none⟩) (v := ?_) rfl (by kernel_rfl) (by kernel_rfl) (by kernel_rfl) (fun _ _ _ h => h) (Or.inl ⟨by rfl, ?_⟩) (by assumption) ?_
  rotate_left
  · intro w hSw; go_simp; try with_reducible rfl
  try simp only [Act.put, List.setIfInBounds_toArray, List.set_cons_zero, List.set_cons_succ]
  refine wpAnyH_take (i := 4) (oi := ⟨some 26, _, _, _, _, none⟩) (v := ?_) rfl (by kernel_rfl) (by kernel_rfl) (by kernel_rfl) (fun _ _ _ h => h) (Or.inl ⟨by rfl, ?_⟩) (by assumption) ?_
  rotate_left
  · intro w hSw; go_simp; try with_reducible rfl
  try simp only [Act.put, List.setIfInBounds_toArray, List.set_cons_zero, List.set_cons_succ]
  refine wpAnyH_take (i := 5) (oi := ⟨some 27, _, _, _, _, none⟩) (v := ?_) rfl (by kernel_rfl) (by kernel_rfl) (by kernel_rfl) (fun _ _ _ h => h) (Or.inl ⟨by rfl, ?_⟩) (by assumption) ?_
  rotate_left
  · intro w hSw; have hcw := H38.out w hSw; go_simp; try with_reducible rfl
  try simp only [Act.put, List.setIfInBounds_toArray, List.set_cons_zero, List.set_cons_succ]
  refine wpAnyH_take (i := 6) (oi := ⟨some 28, _, _, _, _, none⟩) (v := ?_) rfl (by kernel_rfl) (by kernel_rfl) (by kernel_rfl) (fun _ _ _ h => h) (Or.inl ⟨by rfl, ?_⟩) (by assumption) ?_
  rotate_left
  · intro w hSw; go_simp; try with_reducible rfl
  try simp only [Act.put, List.setIfInBounds_toArray, List.set_cons_zero, List.set_cons_succ]
  refine wpAnyH_done (by kernel_rfl) ?_ _
  refine NoPanic.normal ?_
  obtain ⟨w8, hw8⟩ : ∃ w8, w8 = w5.drew := ⟨_, rfl⟩
  have hb8 : BkM w8 p b F B E S L A (.slice AE E.b.length ce) (.slice AF E.ps.length cf) (.slice AA A.b.length ca) (.slice AC A.ps.length cc) := by rw [hw8]; exact hb5.below hHeld.below
  have hV8 : Blk w8 g 27 lm := by rw [hw8]; exact hV5.below hHeld.below
  have hub8 : Rd w8 G (.slice AB m.b.length cb) (bys m.b) := by rw [hw8]; exact hub5.below hHeld.below
  have hup8 : Rd w8 G (.slice AP m.ps.length cpp) (tx m.ps) := by rw [hw8]; exact hup5.below hHeld.below
  have hC8 : Ch (fun x => x = p ∨ x = b) w w8 := by rw [hw8]; exact hC5.drew
  rw [← hw8]
  have H3 : Hid (∀ W, Ch nob w8 W → W.cell? ⟨g, 3, none⟩ = some (.int .i64 m.s)) := fun W hc => (hV8.ch hc (fun h => h)).cellAt 3 _ hl3
  have H38 : Hid (∀ W, Ch nob w8 W → W.cell? ⟨p, 38, none⟩ = some (.int .i64 S)) := fun W hc => (hb8.blk.ch hc (fun h => h)).cellAt 38 _ (bk_at38 (len_vt _ _ _))
  clear hw8 hb5 hV5 hub5 hup5 hC5 hHeld hB5
  go_wp2
  go_upto_region 10 with (fail)
  refine wp_region_noPanic ?_
  refine wp_region_held_drew (S := Ch nob w8) (by kernel_rfl) ((Ch.refl _ _).drew) (fun hHeld => ?_)
  refine wpAnyH_take (i := 0) (oi := ⟨some 29, _, _, _, _, none⟩) (v := ?_) rfl (by kernel_rfl) (by kernel_rfl) (by kernel_rfl) (fun _ _ _ h => h) (Or.inl ⟨by rfl, ?_⟩) (by assumption) ?_
  rotate_left
  · intro w hSw; go_simp; try with_reducible rfl
  try simp only [Act.put, List.setIfInBounds_toArray, List.set_cons_zero, List.set_cons_succ]
  refine wpAnyH_take (i := 1) (oi := ⟨some 30, _, _, _, _, none⟩) (v := ?_) rfl (by kernel_rfl) (by kernel_rfl) (by kernel_rfl) (fun _ _ _ h => h) (Or.inl ⟨by rfl, ?_⟩) (by assumption) ?_
  rotate_left
  · intro w hSw; have hcw := H3.out w hSw; go_simp; try with_reducible rfl
  try simp only [Act.put, List.setIfInBounds_toArray, List.set_cons_zero, List.set_cons_succ]
  refine wpAnyH_take (i := 2) (oi := ⟨some 31, _, _, _, _, none⟩) (v := ?_) rfl (by kernel_rfl) (by kernel_rfl) (by kernel_rfl) (fun _ _ _ h => h) (Or.inl ⟨by rfl, ?_⟩) (by assumption) ?_
  rotate_left
  · intro w hSw; go_simp; try with_reducible rfl
  try simp only [Act.put, List.setIfInBounds_toArray, List.set_cons_zero, List.set_cons_succ]
  refine wpAnyH_take (i := 3) (oi := ⟨some 32, _, _, _, _, none⟩) (v := ?_) rfl (by kernel_rfl) (by kernel_rfl) (by kernel_rfl) (fun _ _ _ h => h) (Or.inl ⟨by rfl, ?_⟩) (by assumption) ?_
  rotate_left
  · intro w hSw; go_simp; try with_reducible rfl
  try simp only [Act.put, List.setIfInBounds_toArray, List.set_cons_zero, List.set_cons_succ]
  refine wpAnyH_take (i := 4) (oi := ⟨some 33, _, _, _, _, none⟩) (v := ?_) rfl (by kernel_rfl) (by kernel_rfl) (by kernel_rfl) (fun _ _ _ h => h) (Or.inl ⟨by rfl, ?_⟩) (by assumption) ?_
  rotate_left
  · intro w hSw; go_simp; try with_reducible rfl
  try simp only [Act.put, List.setIfInBounds_toArray, List.set_cons_zero, List.set_cons_succ]
  refine wpAnyH_take (i := 5) (oi := ⟨some 34, _, _, _, _, none⟩) (v := ?_) rfl (by kernel_rfl) (by kernel_rfl) (by kernel_rfl) (fun _ _ _ h => h) (Or.inl ⟨by rfl, ?_⟩) (by assumption) ?_
  rotate_left
  · intro w hSw; have hcw := H38.out w hSw; go_simp; try with_reducible rfl
  try simp only [Act.put, List.setIfInBounds_toArray, List.set_cons_zero, List.set_cons_succ]
  refine wpAnyH_take (i := 6) (oi := ⟨some 35, _, _, _, _, none⟩) (v := ?_) rfl (by kernel_rfl) (by kernel_rfl) (by kernel_rfl) (fun _ _ _ h => h) (Or.inl ⟨by rfl, ?_⟩) (by assumption) ?_
  rotate_left
  · intro w hSw; go_simp; try with_reducible rfl
  try simp only [Act.put, List.setIfInBounds_toArray, List.set_cons_zero, List.set_cons_succ]
  refine wpAnyH_done (by kernel_rfl) ?_ _
  refine NoPanic.normal ?_
  obtain ⟨w9, hw9⟩ : ∃ w9, w9 = w8.drew := ⟨_, rfl⟩
  have hb9 : BkM w9 p b F B E S L A (.slice AE E.b.length ce) (.slice AF E.ps.length cf) (.slice AA A.b.length ca) (.slice AC A.ps.length cc) := by rw [hw9]; exact hb8.below hHeld.below
  have hV9 : Blk w9 g 27 lm := by rw [hw9]; exact hV8.below hHeld.below
  have hub9 : Rd w9 G (.slice AB m.b.length cb) (bys m.b) := by rw [hw9]; exact hub8.below hHeld.below
  have hup9 : Rd w9 G (.slice AP m.ps.length cpp) (tx m.ps) := by rw [hw9]; exact hup8.below hHeld.below
  have hC9 : Ch (fun x => x = p ∨ x = b) w w9 := by rw [hw9]; exact hC8.drew
  rw [← hw9]
  clear hw9 hb8 hV8 hub8 hup8 hC8 hHeld H3 H38
  by_cases hnew : S < m.s
  · have c3 := hV9.cellAt 3 _ hl3
    have Hrel := hid (Hbeg.out hnew)
    clear Hbeg
    go_wp2_with (fail)
    refine (begin13_any p b (E.l (.slice AE E.b.length ce) (.slice AF E.ps.length cf)) (A.l (.slice AA A.b.length ca) (.slice AC A.ps.length cc)) S m.s L F w9 (len_vt _ _ _) (len_vt _ _ _) hb9.blk hb9.map hb9.ne (fun h => (hF1 b h).2 rfl) (fun h => (hF1 p h).1 rfl)).mono ?_
    rintro e' w11 ⟨rfl, hM11, hP11, hC11⟩
    have hFk : ∀ x, x < w9.heap.size → F x → F x ∧ w11.heap[x]? = w9.heap[x]? := fun x hx hF => ⟨hF, hC11.block x hx (fun e => e.elim (hF1 x hF).1 (hF1 x hF).2)⟩
    have hst : ∃ (L' : List (K2 × Vt)) (A' : Vt) (AX : Option Addr) (cx : Nat) (AY : Option Addr) (cy : Nat), BkM w11 p b F B E m.s L' A' (.slice AE E.b.length ce) (.slice AF E.ps.length cf) (.slice AX A'.b.length cx) (.slice AY A'.ps.length cy) :=
      ⟨[], zV, none, 0, none, 0, ⟨hP11, hb9.eb.keep hFk, hb9.ep.keep hFk, Rd.nil _ _, (by unfold tx Rd; exact ⟨none, 0, rfl, Nat.le_refl _, by simp [maxLen], fun _ => rfl, fun h => absurd rfl h⟩), hM11, Hrel.out, hb9.ne, fun x hx => ⟨(hF1 x hx).1, (hF1 x hx).2, Nat.lt_of_lt_of_le (hb9.f x hx).2.2 hC11.size⟩, by simp⟩⟩
    have hV11 := hV9.ch hC11 (fun e => e.elim hpg hbg)
    have hub11 := hub9.ch hC11 hGp
    have hup11 := hup9.ch hC11 hGp
    have hC := hC9.trans hC11
    clear hb9 hV9 hub9 hup9 hC9 hM11 hP11 hC11 hFk c3 Hrel
    obtain ⟨L', A', AX, cx, AY, cy, hb11⟩ := hst
    have c0 := hV11.cellAt 0 _ hl0
    have hcs := hC.size
    by_cases hk2 : m.k = 2
    · have kk2 : (m.k == 2) = true := beq_iff_eq.2 hk2
      have hlen := hb11.len
      have Hrel := hid (bk_wr (m := m) (s := ⟨(m.v, m.r), lit64 hm.v, lit64 hm.r⟩) hb11.rel hk2 rfl rfl rfl)
      clear hk2
      go_wp2_with (first | refine wp_ld 27 (.tmp 3) rfl rfl rfl hV11.whole Try.underlying27 rfl (by rw [Hlm.out]; exact sizeVt) ?_)
      rw [Elm.out]
      refine (write13_any p b (E.l (.slice AE E.b.length ce) (.slice AF E.ps.length cf)) (A'.l (.slice AX A'.b.length cx) (.slice AY A'.ps.length cy)) m.s L' F G m ⟨(m.v, m.r), lit64 hm.v, lit64 hm.r⟩ (.slice AB m.b.length cb) (.slice AP m.ps.length cpp) w11 (len_vt _ _ _) (len_vt _ _ _) hb11.blk hb11.map (by simp only [maxLen]; omega) hb11.ne (fun h => (hF1 b h).2 rfl) rfl rfl hs hub11 hup11 (fun h => hGp b h (.inr rfl))).mono ?_
      rintro e' w12 ⟨rfl, F', hM12, hC12, hF12⟩
      have hFk : ∀ x, x < w11.heap.size → F x → ((F x ∨ w.heap.size ≤ x) ∧ x < w12.heap.size) ∧ w12.heap[x]? = w11.heap[x]? := fun x hx hF => ⟨⟨.inl hF, Nat.lt_of_lt_of_le hx hC12.size⟩, hC12.block x hx (fun e => (hF1 x hF).2 e)⟩
      have h12 : BkM w12 p b (fun x => (F x ∨ w.heap.size ≤ x) ∧ x < w12.heap.size) (B ++ [m]) E m.s (wrF L' ⟨(m.v, m.r), lit64 hm.v, lit64 hm.r⟩ m) A' (.slice AE E.b.length ce) (.slice AF E.ps.length cf) (.slice AX A'.b.length cx) (.slice AY A'.ps.length cy) :=
        ⟨hb11.blk.ch hC12 (fun e => hb11.ne e), hb11.eb.keep hFk, hb11.ep.keep hFk, hb11.ab.keep hFk, hb11.ap.keep hFk, hM12.weak (fun x hx h => ⟨(hF12 x h).imp id (fun h => Nat.le_trans hcs h), hx⟩), Hrel.out, hb11.ne, fun x hx => ⟨by rintro rfl; rcases hx.1 with h | h; exact (hF1 x h).1 rfl; omega, by rintro rfl; rcases hx.1 with h | h; exact (hF1 x h).2 rfl; omega, hx.2⟩, by rw [List.length_append]; have := wrF_len (L := L') (s := ⟨(m.v, m.r), lit64 hm.v, lit64 hm.r⟩) (m := m); simp; omega⟩
      rw [← Hen.out, ← Hsl.out] at h12
      have HC := hid (hC.trans (hC12.weaken (fun _ _ h => .inr h)))
      have H12 := hid h12
      clear hFk hM12 hC12 hF12 h12 hb11 hV11 hub11 hup11 hC Hrel
      go_wp2
      go_ret
      exact ⟨by rfl, BXp.of H12.out hM (all_snoc Hall.out Hm0.out) (by rw [List.length_append]; simp; omega) HC.out (fun x h => h.1)⟩
    · have kk2 : (m.k == 2) = false := beq_eq_false_iff_ne.2 hk2
      have Hrel := hid (bk_acc hb11.rel (Hk3.out hk2) rfl)
      have h64 := acc64 hb11.rel Hpt.out
      have hlt := fun W h1 h2 h3 h4 => later13_any A' m (.slice AX A'.b.length cx) (.slice AY A'.ps.length cy) (.slice AB m.b.length cb) (.slice AP m.ps.length cpp) F G W h64 ⟨hm.v, hm.r⟩ hs h1 h2 h3 h4
      unfold Vt.val at hlt
      rw [← Elm.out] at hlt
      have Hlt := hid hlt
      have Hbl := hid (bk_len (s := m.s) (b := b) (len_vt E (.slice AE E.b.length ce) (.slice AF E.ps.length cf)) (len_vt A' (.slice AX A'.b.length cx) (.slice AY A'.ps.length cy)))
      clear hk2 h64 hlt
      go_wp2
      clear c0
      obtain ⟨wd, hwd⟩ : ∃ wd, wd = w11.drew := ⟨_, rfl⟩
      have hBd : Below w11.heap.size w11 wd := by rw [hwd]; exact (Ch.refl nob w11).drew.below
      have hbd := hb11.below hBd
      have hPd := hbd.blk
      have hrE : wd.rangeAt p 40 (A'.l (.slice AX A'.b.length cx) (.slice AY A'.ps.length cy)) := hPd.range 40 _ (bk_atA (len_vt _ _ _))
      have hrV : wd.rangeAt g 0 lm := (hV11.below hBd).whole
      have hrad := hbd.ab
      have hrqd := hbd.ap
      have hubd := hub11.below hBd
      have hupd := hup11.below hBd
      have hCd := hC.belowR hBd
      go_upto_region 14 with (fail)
      refine wp_region_noPanic ?_
      refine wp_region_any (by kernel_rfl) ?_
      change wpAny _ _ _ _ _ _ _ (World.drew _)
      rw [← hwd]
      clear hwd
      refine wpAny_take (i := 0) (oi := ⟨some 46, _, _, _, _, none⟩) (v := ?_) rfl (by kernel_rfl) (by kernel_rfl) (by kernel_rfl) (fun _ _ _ h => h) (Or.inl ⟨by rfl, ?_⟩) ?_
      rotate_left
      · intro w; go_simp; try with_reducible rfl
      try simp only [Act.put, List.setIfInBounds_toArray, List.set_cons_zero, List.set_cons_succ]
      refine wpAny_take (i := 1) (oi := ⟨some 47, _, _, _, _, none⟩) (v := ?_) rfl (by kernel_rfl) (by kernel_rfl) (by kernel_rfl) (fun _ _ _ h => h) (Or.inl ⟨by rfl, ?_⟩) ?_
      rotate_left
      · intro w; go_simp; try with_reducible rfl
      try simp only [Act.put, List.setIfInBounds_toArray, List.set_cons_zero, List.set_cons_succ]
      refine wpAny_take (i := 2) (oi := ⟨some 48, _, _, _, _, none⟩) (v := ?_) rfl (by kernel_rfl) (by kernel_rfl) (by kernel_rfl) (fun _ _ _ h => h) (Or.inl ⟨by rfl, ?_⟩) ?_
      rotate_left
      · intro w; go_simp; try with_reducible rfl
      try simp only [Act.put, List.setIfInBounds_toArray, List.set_cons_zero, List.set_cons_succ]
      refine wpAny_take (i := 3) (oi := ⟨some 49, _, _, _, _, none⟩) (v := ?_) rfl (by kernel_rfl) (by kernel_rfl) (by kernel_rfl) (fun _ _ _ h => h) (Or.inl ⟨by rfl, ?_⟩) ?_
      rotate_left
      · intro w; go_simp; try with_reducible rfl
      try simp only [Act.put, List.setIfInBounds_toArray, List.set_cons_zero, List.set_cons_succ]
      refine wpAny_ready (rs := [4, 5]) (by kernel_rfl) (by simp) ?_
      refine AllReady.cons (o := ⟨some 50, .load _ _, _, _, _, none⟩) rfl (fun K hK => ?_) ?_
      · refine step_ld 27 (.tmp 49) (by rfl) (by rfl) (by rfl) hrE Try.underlying27 rfl (by rw [len_vt]; exact sizeVt) ?_
        refine hK _ _ ?_
        clear hK K
        try simp only [Act.put, List.setIfInBounds_toArray, List.set_cons_zero, List.set_cons_succ]
        refine wpAny_ready (rs := [5]) (by kernel_rfl) (by simp) ?_
        refine AllReady.cons (o := ⟨some 51, .load _ _, _, _, _, none⟩) rfl (fun K hK => ?_) AllReady.nil
        refine step_ld 27 (.tmp 3) (by rfl) (by rfl) (by rfl) hrV Try.underlying27 rfl (by rw [Hlm.out]; exact sizeVt) ?_
        refine hK _ _ ?_
        clear hK K
        try simp only [Act.put, List.setIfInBounds_toArray, List.set_cons_zero, List.set_cons_succ]
        refine wpAny_ready (rs := [6]) (by kernel_rfl) (by simp) ?_
        refine AllReady.cons (o := ⟨some 52, _, _, _, _, none⟩) rfl (fun K hK => ?_) AllReady.nil
        go_simp
        refine (Hlt.out _ hrad hrqd hubd hupd).mono ?_
        rintro e' w6 ⟨vb, vp, rfl, hr6, hr7, hB6⟩
        obtain ⟨A6, c6, rfl⟩ := hr6.shape
        obtain ⟨A7, c7, rfl, _, _⟩ := hr7.slShape
        have hP6 := hPd.below hB6
        have hBw6 := hBd.trans (hB6.mono hBd.size)
        have hC6 : Ch (fun x => x = p) w11 w6 := (Ch.refl _ _).belowR (hBd.trans (hB6.mono hBd.size))
        refine hK _ _ ?_
        clear hK K
        try simp only [Act.put, List.setIfInBounds_toArray, List.set_cons_zero, List.set_cons_succ]
        refine wpAny_take (i := 7) (oi := ⟨some 53, _, _, _, _, none⟩) (v := ?_) rfl (by kernel_rfl) (by kernel_rfl) (by kernel_rfl) (fun _ _ _ h => h) (Or.inl ⟨by rfl, ?_⟩) ?_
        rotate_left
        · intro w; go_simp; try with_reducible rfl
        try simp only [Act.put, List.setIfInBounds_toArray, List.set_cons_zero, List.set_cons_succ]
        refine wpAny_take (i := 8) (oi := ⟨some 54, _, _, _, _, none⟩) (v := ?_) rfl (by kernel_rfl) (by kernel_rfl) (by kernel_rfl) (fun _ _ _ h => h) (Or.inl ⟨by rfl, ?_⟩) ?_
        rotate_left
        · intro w; go_simp; try with_reducible rfl
        try simp only [Act.put, List.setIfInBounds_toArray, List.set_cons_zero, List.set_cons_succ]
        refine wpAny_ready (rs := [9]) (by kernel_rfl) (by simp) ?_
        refine AllReady.cons (o := ⟨none, _, _, _, _, none⟩) rfl (fun K hK => ?_) AllReady.nil
        refine step_st 27 (.tmp 54) (.tmp 52) (by rfl) (by rfl) (by rfl) (f := 40) (by rfl) (l := (lateF A' m).l (.slice A6 (lateF A' m).b.length c6) (.slice A7 (lateF A' m).ps.length c7)) (by rfl) hP6 (by rw [len_vt, Hbl.out]; omega) (by rw [len_vt]; exact sizeVt) one_vt ?_
        intro w9 hP9 hG9
        refine hK _ _ ?_
        clear hK K
        try simp only [Act.put, List.setIfInBounds_toArray, List.set_cons_zero, List.set_cons_succ]
        refine wpAny_done (by kernel_rfl) ?_ _
        refine NoPanic.normal ?_
        rw [bk_acc40 (len_vt _ _ _) (len_vt _ _ _) (len_vt _ _ _)] at hP9
        have hC9 := (hCd.belowR hB6).grow hG9 (fun k hk => .inl (.inl (by injection hk with hk; exact hk.symm)))
        have h6 := hbd.below hB6
        have hds := hCd.size
        have hFp : ∀ x, F x → ¬ x = p := fun x hx => (hF1 x hx).1
        have hkp : ∀ x, x < w6.heap.size → F x → ((F x ∨ w.heap.size ≤ x) ∧ x < w9.heap.size) ∧ w9.heap[x]? = w6.heap[x]? := fun x hx hF => ⟨⟨.inl hF, Nat.lt_of_lt_of_le hx hG9.size⟩, hG9.block x hx (fun e => by injection e with e; exact hFp x hF e)⟩
        have hkn : ∀ x, x < w6.heap.size → (F x ∨ wd.heap.size ≤ x) → ((F x ∨ w.heap.size ≤ x) ∧ x < w9.heap.size) ∧ w9.heap[x]? = w6.heap[x]? := fun x hx hF => ⟨⟨hF.imp id (fun h => Nat.le_trans hds h), Nat.lt_of_lt_of_le hx hG9.size⟩, hG9.block x hx (fun e => by injection e with e; rcases hF with hF | hF; exact hFp x hF e; omega)⟩
        have hfin : BkM w9 p b (fun x => (F x ∨ w.heap.size ≤ x) ∧ x < w9.heap.size) (B ++ [m]) E m.s L' (lateF A' m) (.slice AE E.b.length ce) (.slice AF E.ps.length cf) (.slice A6 (lateF A' m).b.length c6) (.slice A7 (lateF A' m).ps.length c7) :=
          ⟨hP9, h6.eb.keep hkp, h6.ep.keep hkp, hr6.keep hkn, hr7.keep hkn, h6.map.keep (hG9.block b h6.map.lt (fun e => by injection e with e; exact h6.ne e.symm)) hkp, Hrel.out, h6.ne, fun x hx => ⟨by rintro rfl; rcases hx.1 with h | h; exact (h6.f x h).1 rfl; omega, by rintro rfl; rcases hx.1 with h | h; exact (h6.f x h).2.1 rfl; omega, hx.2⟩, by rw [List.length_append]; have := h6.len; omega⟩
        rw [← Hen.out, ← Hsl.out] at hfin
        have Hfin := hid hfin
        have HC9 := hid hC9
        clear hfin hkp hkn h6 hC9 hP9 hG9 hP6 hB6 hr6 hr7 hb11 hub11 hup11 hV11 hBd hPd hrE hrV hrad hrqd hubd hupd hbd hC hCd Hrel Hbl Hlt hBw6 hC6
        go_wp2
        go_ret
        exact ⟨by rfl, BXp.of Hfin.out hM (all_snoc Hall.out Hm0.out) (by rw [List.length_append]; simp; omega) HC9.out (fun x h => h.1)⟩
      refine AllReady.cons (o := ⟨some 51, .load _ _, _, _, _, none⟩) rfl (fun K hK => ?_) AllReady.nil
      refine step_ld 27 (.tmp 3) (by rfl) (by rfl) (by rfl) hrV Try.underlying27 rfl (by rw [Hlm.out]; exact sizeVt) ?_
      refine hK _ _ ?_
      clear hK K
      try simp only [Act.put, List.setIfInBounds_toArray, List.set_cons_zero, List.set_cons_succ]
      refine wpAny_ready (rs := [4]) (by kernel_rfl) (by simp) ?_
      refine AllReady.cons (o := ⟨some 50, .load _ _, _, _, _, none⟩) rfl (fun K hK => ?_) AllReady.nil
      refine step_ld 27 (.tmp 49) (by rfl) (by rfl) (by rfl) hrE Try.underlying27 rfl (by rw [len_vt]; exact sizeVt) ?_
      refine hK _ _ ?_
      clear hK K
      try simp only [Act.put, List.setIfInBounds_toArray, List.set_cons_zero, List.set_cons_succ]
      refine wpAny_ready (rs := [6]) (by kernel_rfl) (by simp) ?_
      refine AllReady.cons (o := ⟨some 52, _, _, _, _, none⟩) rfl (fun K hK => ?_) AllReady.nil
      go_simp
      refine (Hlt.out _ hrad hrqd hubd hupd).mono ?_
      rintro e' w6 ⟨vb, vp, rfl, hr6, hr7, hB6⟩
      obtain ⟨A6, c6, rfl⟩ := hr6.shape
      obtain ⟨A7, c7, rfl, _, _⟩ := hr7.slShape
      have hP6 := hPd.below hB6
      have hBw6 := hBd.trans (hB6.mono hBd.size)
      have hC6 : Ch (fun x => x = p) w11 w6 := (Ch.refl _ _).belowR (hBd.trans (hB6.mono hBd.size))
      refine hK _ _ ?_
      clear hK K
      try simp only [Act.put, List.setIfInBounds_toArray, List.set_cons_zero, List.set_cons_succ]
      refine wpAny_take (i := 7) (oi := ⟨some 53, _, _, _, _, none⟩) (v := ?_) rfl (by kernel_rfl) (by kernel_rfl) (by kernel_rfl) (fun _ _ _ h => h) (Or.inl ⟨by rfl, ?_⟩) ?_
      rotate_left
      · intro w; go_simp; try with_reducible rfl
      try simp only [Act.put, List.setIfInBounds_toArray, List.set_cons_zero, List.set_cons_succ]
      refine wpAny_take (i := 8) (oi := ⟨some 54, _, _, _, _, none⟩) (v := ?_) rfl (by kernel_rfl) (by kernel_rfl) (by kernel_rfl) (fun _ _ _ h => h) (Or.inl ⟨by rfl, ?_⟩) ?_
      rotate_left
      · intro w; go_simp; try with_reducible rfl
      try simp only [Act.put, List.setIfInBounds_toArray, List.set_cons_zero, List.set_cons_succ]
      refine wpAny_ready (rs := [9]) (by kernel_rfl) (by simp) ?_
      refine AllReady.cons (o := ⟨none, _, _, _, _, none⟩) rfl (fun K hK => ?_) AllReady.nil
      refine step_st 27 (.tmp 54) (.tmp 52) (by rfl) (by rfl) (by rfl) (f := 40) (by rfl) (l := (lateF A' m).l (.slice A6 (lateF A' m).b.length c6) (.slice A7 (lateF A' m).ps.length c7)) (by rfl) hP6 (by rw [len_vt, Hbl.out]; omega) (by rw [len_vt]; exact sizeVt) one_vt ?_
      intro w9 hP9 hG9
      refine hK _ _ ?_
      clear hK K
      try simp only [Act.put, List.setIfInBounds_toArray, List.set_cons_zero, List.set_cons_succ]
      refine wpAny_done (by kernel_rfl) ?_ _
      refine NoPanic.normal ?_
      rw [bk_acc40 (len_vt _ _ _) (len_vt _ _ _) (len_vt _ _ _)] at hP9
      have hC9 := (hCd.belowR hB6).grow hG9 (fun k hk => .inl (.inl (by injection hk with hk; exact hk.symm)))
      have h6 := hbd.below hB6
      have hds := hCd.size
      have hFp : ∀ x, F x → ¬ x = p := fun x hx => (hF1 x hx).1
      have hkp : ∀ x, x < w6.heap.size → F x → ((F x ∨ w.heap.size ≤ x) ∧ x < w9.heap.size) ∧ w9.heap[x]? = w6.heap[x]? := fun x hx hF => ⟨⟨.inl hF, Nat.lt_of_lt_of_le hx hG9.size⟩, hG9.block x hx (fun e => by injection e with e; exact hFp x hF e)⟩
      have hkn : ∀ x, x < w6.heap.size → (F x ∨ wd.heap.size ≤ x) → ((F x ∨ w.heap.size ≤ x) ∧ x < w9.heap.size) ∧ w9.heap[x]? = w6.heap[x]? := fun x hx hF => ⟨⟨hF.imp id (fun h => Nat.le_trans hds h), Nat.lt_of_lt_of_le hx hG9.size⟩, hG9.block x hx (fun e => by injection e with e; rcases hF with hF | hF; exact hFp x hF e; omega)⟩
      have hfin : BkM w9 p b (fun x => (F x ∨ w.heap.size ≤ x) ∧ x < w9.heap.size) (B ++ [m]) E m.s L' (lateF A' m) (.slice AE E.b.length ce) (.slice AF E.ps.length cf) (.slice A6 (lateF A' m).b.length c6) (.slice A7 (lateF A' m).ps.length c7) :=
        ⟨hP9, h6.eb.keep hkp, h6.ep.keep hkp, hr6.keep hkn, hr7.keep hkn, h6.map.keep (hG9.block b h6.map.lt (fun e => by injection e with e; exact h6.ne e.symm)) hkp, Hrel.out, h6.ne, fun x hx => ⟨by rintro rfl; rcases hx.1 with h | h; exact (h6.f x h).1 rfl; omega, by rintro rfl; rcases hx.1 with h | h; exact (h6.f x h).2.1 rfl; omega, hx.2⟩, by rw [List.length_append]; have := h6.len; omega⟩
      rw [← Hen.out, ← Hsl.out] at hfin
      have Hfin := hid hfin
      have HC9 := hid hC9
      clear hfin hkp hkn h6 hC9 hP9 hG9 hP6 hB6 hr6 hr7 hb11 hub11 hup11 hV11 hBd hPd hrE hrV hrad hrqd hubd hupd hbd hC hCd Hrel Hbl Hlt hBw6 hC6
      go_wp2
      go_ret
      exact ⟨by rfl, BXp.of Hfin.out hM (all_snoc Hall.out Hm0.out) (by rw [List.length_append]; simp; omega) HC9.out (fun x h => h.1)⟩
  · have hse : S = m.s := by omega
    have hst : ∃ (L' : List (K2 × Vt)) (A' : Vt) (AX : Option Addr) (cx : Nat) (AY : Option Addr) (cy : Nat), BkM w9 p b F B E m.s L' A' (.slice AE E.b.length ce) (.slice AF E.ps.length cf) (.slice AX A'.b.length cx) (.slice AY A'.ps.length cy) :=
      ⟨L, A, AA, ca, AC, cc, by rw [← hse]; exact hb9⟩
    obtain ⟨w11, hw11⟩ : ∃ w11, w11 = w9 := ⟨_, rfl⟩
    rw [← hw11] at hst hV9 hub9 hup9 hC9 ⊢
    have hV11 := hV9
    have hub11 := hub9
    have hup11 := hup9
    have hC := hC9
    clear hb9 hV9 hub9 hup9 hC9 hw11 hse Hbeg
    obtain ⟨L', A', AX, cx, AY, cy, hb11⟩ := hst
    have c0 := hV11.cellAt 0 _ hl0
    have hcs := hC.size
    by_cases hk2 : m.k = 2
    · have kk2 : (m.k == 2) = true := beq_iff_eq.2 hk2
      have hlen := hb11.len
      have Hrel := hid (bk_wr (m := m) (s := ⟨(m.v, m.r), lit64 hm.v, lit64 hm.r⟩) hb11.rel hk2 rfl rfl rfl)
      clear hk2
      go_wp2_with (first | refine wp_ld 27 (.tmp 3) rfl rfl rfl hV11.whole Try.underlying27 rfl (by rw [Hlm.out]; exact sizeVt) ?_)
      rw [Elm.out]
      refine (write13_any p b (E.l (.slice AE E.b.length ce) (.slice AF E.ps.length cf)) (A'.l (.slice AX A'.b.length cx) (.slice AY A'.ps.length cy)) m.s L' F G m ⟨(m.v, m.r), lit64 hm.v, lit64 hm.r⟩ (.slice AB m.b.length cb) (.slice AP m.ps.length cpp) w11 (len_vt _ _ _) (len_vt _ _ _) hb11.blk hb11.map (by simp only [maxLen]; omega) hb11.ne (fun h => (hF1 b h).2 rfl) rfl rfl hs hub11 hup11 (fun h => hGp b h (.inr rfl))).mono ?_
      rintro e' w12 ⟨rfl, F', hM12, hC12, hF12⟩
      have hFk : ∀ x, x < w11.heap.size → F x → ((F x ∨ w.heap.size ≤ x) ∧ x < w12.heap.size) ∧ w12.heap[x]? = w11.heap[x]? := fun x hx hF => ⟨⟨.inl hF, Nat.lt_of_lt_of_le hx hC12.size⟩, hC12.block x hx (fun e => (hF1 x hF).2 e)⟩
      have h12 : BkM w12 p b (fun x => (F x ∨ w.heap.size ≤ x) ∧ x < w12.heap.size) (B ++ [m]) E m.s (wrF L' ⟨(m.v, m.r), lit64 hm.v, lit64 hm.r⟩ m) A' (.slice AE E.b.length ce) (.slice AF E.ps.length cf) (.slice AX A'.b.length cx) (.slice AY A'.ps.length cy) :=
        ⟨hb11.blk.ch hC12 (fun e => hb11.ne e), hb11.eb.keep hFk, hb11.ep.keep hFk, hb11.ab.keep hFk, hb11.ap.keep hFk, hM12.weak (fun x hx h => ⟨(hF12 x h).imp id (fun h => Nat.le_trans hcs h), hx⟩), Hrel.out, hb11.ne, fun x hx => ⟨by rintro rfl; rcases hx.1 with h | h; exact (hF1 x h).1 rfl; omega, by rintro rfl; rcases hx.1 with h | h; exact (hF1 x h).2 rfl; omega, hx.2⟩, by rw [List.length_append]; have := wrF_len (L := L') (s := ⟨(m.v, m.r), lit64 hm.v, lit64 hm.r⟩) (m := m); simp; omega⟩
      rw [← Hen.out, ← Hsl.out] at h12
      have HC := hid (hC.trans (hC12.weaken (fun _ _ h => .inr h)))
      have H12 := hid h12
      clear hFk hM12 hC12 hF12 h12 hb11 hV11 hub11 hup11 hC Hrel
      go_wp2
      go_ret
      exact ⟨by rfl, BXp.of H12.out hM (all_snoc Hall.out Hm0.out) (by rw [List.length_append]; simp; omega) HC.out (fun x h => h.1)⟩
    · have kk2 : (m.k == 2) = false := beq_eq_false_iff_ne.2 hk2
      have Hrel := hid (bk_acc hb11.rel (Hk3.out hk2) rfl)
      have h64 := acc64 hb11.rel Hpt.out
      have hlt := fun W h1 h2 h3 h4 => later13_any A' m (.slice AX A'.b.length cx) (.slice AY A'.ps.length cy) (.slice AB m.b.length cb) (.slice AP m.ps.length cpp) F G W h64 ⟨hm.v, hm.r⟩ hs h1 h2 h3 h4
      unfold Vt.val at hlt
      rw [← Elm.out] at hlt
      have Hlt := hid hlt
      have Hbl := hid (bk_len (s := m.s) (b := b) (len_vt E (.slice AE E.b.length ce) (.slice AF E.ps.length cf)) (len_vt A' (.slice AX A'.b.length cx) (.slice AY A'.ps.length cy)))
      clear hk2 h64 hlt
      go_wp2
      clear c0
      obtain ⟨wd, hwd⟩ : ∃ wd, wd = w11.drew := ⟨_, rfl⟩
      have hBd : Below w11.heap.size w11 wd := by rw [hwd]; exact (Ch.refl nob w11).drew.below
      have hbd := hb11.below hBd
      have hPd := hbd.blk
      have hrE : wd.rangeAt p 40 (A'.l (.slice AX A'.b.length cx) (.slice AY A'.ps.length cy)) := hPd.range 40 _ (bk_atA (len_vt _ _ _))
      have hrV : wd.rangeAt g 0 lm := (hV11.below hBd).whole
      have hrad := hbd.ab
      have hrqd := hbd.ap
      have hubd := hub11.below hBd
      have hupd := hup11.below hBd
      have hCd := hC.belowR hBd
      go_upto_region 14 with (fail)
      refine wp_region_noPanic ?_
      refine wp_region_any (by kernel_rfl) ?_
      change wpAny _ _ _ _ _ _ _ (World.drew _)
      rw [← hwd]
      clear hwd
      refine wpAny_take (i := 0) (oi := ⟨some 46, _, _, _, _, none⟩) (v := ?_) rfl (by kernel_rfl) (by kernel_rfl) (by kernel_rfl) (fun _ _ _ h => h) (Or.inl ⟨by rfl, ?_⟩) ?_
      rotate_left
      · intro w; go_simp; try with_reducible rfl
      try simp only [Act.put, List.setIfInBounds_toArray, List.set_cons_zero, List.set_cons_succ]
      refine wpAny_take (i := 1) (oi := ⟨some 47, _, _, _, _, none⟩) (v := ?_) rfl (by kernel_rfl) (by kernel_rfl) (by kernel_rfl) (fun _ _ _ h => h) (Or.inl ⟨by rfl, ?_⟩) ?_
      rotate_left
      · intro w; go_simp; try with_reducible rfl
      try simp only [Act.put, List.setIfInBounds_toArray, List.set_cons_zero, List.set_cons_succ]
      refine wpAny_take (i := 2) (oi := ⟨some 48, _, _, _, _, none⟩) (v := ?_) rfl (by kernel_rfl) (by kernel_rfl) (by kernel_rfl) (fun _ _ _ h => h) (Or.inl ⟨by rfl, ?_⟩) ?_
      rotate_left
      · intro w; go_simp; try with_reducible rfl
      try simp only [Act.put, List.setIfInBounds_toArray, List.set_cons_zero, List.set_cons_succ]
      refine wpAny_take (i := 3) (oi := ⟨some 49, _, _, _, _, none⟩) (v := ?_) rfl (by kernel_rfl) (by kernel_rfl) (by kernel_rfl) (fun _ _ _ h => h) (Or.inl ⟨by rfl, ?_⟩) ?_
      rotate_left
      · intro w; go_simp; try with_reducible rfl
      try simp only [Act.put, List.setIfInBounds_toArray, List.set_cons_zero, List.set_cons_succ]
      refine wpAny_ready (rs := [4, 5]) (by kernel_rfl) (by simp) ?_
      refine AllReady.cons (o := ⟨some 50, .load _ _, _, _, _, none⟩) rfl (fun K hK => ?_) ?_
      · refine step_ld 27 (.tmp 49) (by rfl) (by rfl) (by rfl) hrE Try.underlying27 rfl (by rw [len_vt]; exact sizeVt) ?_
        refine hK _ _ ?_
        clear hK K
        try simp only [Act.put, List.setIfInBounds_toArray, List.set_cons_zero, List.set_cons_succ]
        refine wpAny_ready (rs := [5]) (by kernel_rfl) (by simp) ?_
        refine AllReady.cons (o := ⟨some 51, .load _ _, _, _, _, none⟩) rfl (fun K hK => ?_) AllReady.nil
        refine step_ld 27 (.tmp 3) (by rfl) (by rfl) (by rfl) hrV Try.underlying27 rfl (by rw [Hlm.out]; exact sizeVt) ?_
        refine hK _ _ ?_
        clear hK K
        try simp only [Act.put, List.setIfInBounds_toArray, List.set_cons_zero, List.set_cons_succ]
        refine wpAny_ready (rs := [6]) (by kernel_rfl) (by simp) ?_
        refine AllReady.cons (o := ⟨some 52, _, _, _, _, none⟩) rfl (fun K hK => ?_) AllReady.nil
        go_simp
        refine (Hlt.out _ hrad hrqd hubd hupd).mono ?_
        rintro e' w6 ⟨vb, vp, rfl, hr6, hr7, hB6⟩
        obtain ⟨A6, c6, rfl⟩ := hr6.shape
        obtain ⟨A7, c7, rfl, _, _⟩ := hr7.slShape
        have hP6 := hPd.below hB6
        have hBw6 := hBd.trans (hB6.mono hBd.size)
        have hC6 : Ch (fun x => x = p) w11 w6 := (Ch.refl _ _).belowR (hBd.trans (hB6.mono hBd.size))
        refine hK _ _ ?_
        clear hK K
        try simp only [Act.put, List.setIfInBounds_toArray, List.set_cons_zero, List.set_cons_succ]
        refine wpAny_take (i := 7) (oi := ⟨some 53, _, _, _, _, none⟩) (v := ?_) rfl (by kernel_rfl) (by kernel_rfl) (by kernel_rfl) (fun _ _ _ h => h) (Or.inl ⟨by rfl, ?_⟩) ?_
        rotate_left
        · intro w; go_simp; try with_reducible rfl
        try simp only [Act.put, List.setIfInBounds_toArray, List.set_cons_zero, List.set_cons_succ]
        refine wpAny_take (i := 8) (oi := ⟨some 54, _, _, _, _, none⟩) (v := ?_) rfl (by kernel_rfl) (by kernel_rfl) (by kernel_rfl) (fun _ _ _ h => h) (Or.inl ⟨by rfl, ?_⟩) ?_
        rotate_left
        · intro w; go_simp; try with_reducible rfl
        try simp only [Act.put, List.setIfInBounds_toArray, List.set_cons_zero, List.set_cons_succ]
        refine wpAny_ready (rs := [9]) (by kernel_rfl) (by simp) ?_
        refine AllReady.cons (o := ⟨none, _, _, _, _, none⟩) rfl (fun K hK => ?_) AllReady.nil
        refine step_st 27 (.tmp 54) (.tmp 52) (by rfl) (by rfl) (by rfl) (f := 40) (by rfl) (l := (lateF A' m).l (.slice A6 (lateF A' m).b.length c6) (.slice A7 (lateF A' m).ps.length c7)) (by rfl) hP6 (by rw [len_vt, Hbl.out]; omega) (by rw [len_vt]; exact sizeVt) one_vt ?_
        intro w9 hP9 hG9
        refine hK _ _ ?_
        clear hK K
        try simp only [Act.put, List.setIfInBounds_toArray, List.set_cons_zero, List.set_cons_succ]
        refine wpAny_done (by kernel_rfl) ?_ _
        refine NoPanic.normal ?_
        rw [bk_acc40 (len_vt _ _ _) (len_vt _ _ _) (len_vt _ _ _)] at hP9
        have hC9 := (hCd.belowR hB6).grow hG9 (fun k hk => .inl (.inl (by injection hk with hk; exact hk.symm)))
        have h6 := hbd.below hB6
        have hds := hCd.size
        have hFp : ∀ x, F x → ¬ x = p := fun x hx => (hF1 x hx).1
        have hkp : ∀ x, x < w6.heap.size → F x → ((F x ∨ w.heap.size ≤ x) ∧ x < w9.heap.size) ∧ w9.heap[x]? = w6.heap[x]? := fun x hx hF => ⟨⟨.inl hF, Nat.lt_of_lt_of_le hx hG9.size⟩, hG9.block x hx (fun e => by injection e with e; exact hFp x hF e)⟩
        have hkn : ∀ x, x < w6.heap.size → (F x ∨ wd.heap.size ≤ x) → ((F x ∨ w.heap.size ≤ x) ∧ x < w9.heap.size) ∧ w9.heap[x]? = w6.heap[x]? := fun x hx hF => ⟨⟨hF.imp id (fun h => Nat.le_trans hds h), Nat.lt_of_lt_of_le hx hG9.size⟩, hG9.block x hx (fun e => by injection e with e; rcases hF with hF | hF; exact hFp x hF e; omega)⟩
        have hfin : BkM w9 p b (fun x => (F x ∨ w.heap.size ≤ x) ∧ x < w9.heap.size) (B ++ [m]) E m.s L' (lateF A' m) (.slice AE E.b.length ce) (.slice AF E.ps.length cf) (.slice A6 (lateF A' m).b.length c6) (.slice A7 (lateF A' m).ps.length c7) :=
          ⟨hP9, h6.eb.keep hkp, h6.ep.keep hkp, hr6.keep hkn, hr7.keep hkn, h6.map.keep (hG9.block b h6.map.lt (fun e => by injection e with e; exact h6.ne e.symm)) hkp, Hrel.out, h6.ne, fun x hx => ⟨by rintro rfl; rcases hx.1 with h | h; exact (h6.f x h).1 rfl; omega, by rintro rfl; rcases hx.1 with h | h; exact (h6.f x h).2.1 rfl; omega, hx.2⟩, by rw [List.length_append]; have := h6.len; omega⟩
        rw [← Hen.out, ← Hsl.out] at hfin
        have Hfin := hid hfin
        have HC9 := hid hC9
        clear hfin hkp hkn h6 hC9 hP9 hG9 hP6 hB6 hr6 hr7 hb11 hub11 hup11 hV11 hBd hPd hrE hrV hrad hrqd hubd hupd hbd hC hCd Hrel Hbl Hlt hBw6 hC6
        go_wp2
        go_ret
        exact ⟨by rfl, BXp.of Hfin.out hM (all_snoc Hall.out Hm0.out) (by rw [List.length_append]; simp; omega) HC9.out (fun x h => h.1)⟩
      refine AllReady.cons (o := ⟨some 51, .load _ _, _, _, _, none⟩) rfl (fun K hK => ?_) AllReady.nil
      refine step_ld 27 (.tmp 3) (by rfl) (by rfl) (by rfl) hrV Try.underlying27 rfl (by rw [Hlm.out]; exact sizeVt) ?_
      refine hK _ _ ?_
      clear hK K
      try simp only [Act.put, List.setIfInBounds_toArray, List.set_cons_zero, List.set_cons_succ]
      refine wpAny_ready (rs := [4]) (by kernel_rfl) (by simp) ?_
      refine AllReady.cons (o := ⟨some 50, .load _ _, _, _, _, none⟩) rfl (fun K hK => ?_) AllReady.nil
      refine step_ld 27 (.tmp 49) (by rfl) (by rfl) (by rfl) hrE Try.underlying27 rfl (by rw [len_vt]; exact sizeVt) ?_
      refine hK _ _ ?_
      clear hK K
      try simp only [Act.put, List.setIfInBounds_toArray, List.set_cons_zero, List.set_cons_succ]
      refine wpAny_ready (rs := [6]) (by kernel_rfl) (by simp) ?_
      refine AllReady.cons (o := ⟨some 52, _, _, _, _, none⟩) rfl (fun K hK => ?_) AllReady.nil
      go_simp
      refine (Hlt.out _ hrad hrqd hubd hupd).mono ?_
      rintro e' w6 ⟨vb, vp, rfl, hr6, hr7, hB6⟩
      obtain ⟨A6, c6, rfl⟩ := hr6.shape
      obtain ⟨A7, c7, rfl, _, _⟩ := hr7.slShape
      have hP6 := hPd.below hB6
      have hBw6 := hBd.trans (hB6.mono hBd.size)
      have hC6 : Ch (fun x => x = p) w11 w6 := (Ch.refl _ _).belowR (hBd.trans (hB6.mono hBd.size))
      refine hK _ _ ?_
      clear hK K
      try simp only [Act.put, List.setIfInBounds_toArray, List.set_cons_zero, List.set_cons_succ]
      refine wpAny_take (i := 7) (oi := ⟨some 53, _, _, _, _, none⟩) (v := ?_) rfl (by kernel_rfl) (by kernel_rfl) (by kernel_rfl) (fun _ _ _ h => h) (Or.inl ⟨by rfl, ?_⟩) ?_
      rotate_left
      · intro w; go_simp; try with_reducible rfl
      try simp only [Act.put, List.setIfInBounds_toArray, List.set_cons_zero, List.set_cons_succ]
      refine wpAny_take (i := 8) (oi := ⟨some 54, _, _, _, _, none⟩) (v := ?_) rfl (by kernel_rfl) (by kernel_rfl) (by kernel_rfl) (fun _ _ _ h => h) (Or.inl ⟨by rfl, ?_⟩) ?_
      rotate_left
      · intro w; go_simp; try with_reducible rfl
      try simp only [Act.put, List.setIfInBounds_toArray, List.set_cons_zero, List.set_cons_succ]
      refine wpAny_ready (rs := [9]) (by kernel_rfl) (by simp) ?_
      refine AllReady.cons (o := ⟨none, _, _, _, _, none⟩) rfl (fun K hK => ?_) AllReady.nil
      refine step_st 27 (.tmp 54) (.tmp 52) (by rfl) (by rfl) (by rfl) (f := 40) (by rfl) (l := (lateF A' m).l (.slice A6 (lateF A' m).b.length c6) (.slice A7 (lateF A' m).ps.length c7)) (by rfl) hP6 (by rw [len_vt, Hbl.out]; omega) (by rw [len_vt]; exact sizeVt) one_vt ?_
      intro w9 hP9 hG9
      refine hK _ _ ?_
      clear hK K
      try simp only [Act.put, List.setIfInBounds_toArray, List.set_cons_zero, List.set_cons_succ]
      refine wpAny_done (by kernel_rfl) ?_ _
      refine NoPanic.normal ?_
      rw [bk_acc40 (len_vt _ _ _) (len_vt _ _ _) (len_vt _ _ _)] at hP9
      have hC9 := (hCd.belowR hB6).grow hG9 (fun k hk => .inl (.inl (by injection hk with hk; exact hk.symm)))
      have h6 := hbd.below hB6
      have hds := hCd.size
      have hFp : ∀ x, F x → ¬ x = p := fun x hx => (hF1 x hx).1
      have hkp : ∀ x, x < w6.heap.size → F x → ((F x ∨ w.heap.size ≤ x) ∧ x < w9.heap.size) ∧ w9.heap[x]? = w6.heap[x]? := fun x hx hF => ⟨⟨.inl hF, Nat.lt_of_lt_of_le hx hG9.size⟩, hG9.block x hx (fun e => by injection e with e; exact hFp x hF e)⟩
      have hkn : ∀ x, x < w6.heap.size → (F x ∨ wd.heap.size ≤ x) → ((F x ∨ w.heap.size ≤ x) ∧ x < w9.heap.size) ∧ w9.heap[x]? = w6.heap[x]? := fun x hx hF => ⟨⟨hF.imp id (fun h => Nat.le_trans hds h), Nat.lt_of_lt_of_le hx hG9.size⟩, hG9.block x hx (fun e => by injection e with e; rcases hF with hF | hF; exact hFp x hF e; omega)⟩
      have hfin : BkM w9 p b (fun x => (F x ∨ w.heap.size ≤ x) ∧ x < w9.heap.size) (B ++ [m]) E m.s L' (lateF A' m) (.slice AE E.b.length ce) (.slice AF E.ps.length cf) (.slice A6 (lateF A' m).b.length c6) (.slice A7 (lateF A' m).ps.length c7) :=
        ⟨hP9, h6.eb.keep hkp, h6.ep.keep hkp, hr6.keep hkn, hr7.keep hkn, h6.map.keep (hG9.block b h6.map.lt (fun e => by injection e with e; exact h6.ne e.symm)) hkp, Hrel.out, h6.ne, fun x hx => ⟨by rintro rfl; rcases hx.1 with h | h; exact (h6.f x h).1 rfl; omega, by rintro rfl; rcases hx.1 with h | h; exact (h6.f x h).2.1 rfl; omega, hx.2⟩, by rw [List.length_append]; have := h6.len; omega⟩
      rw [← Hen.out, ← Hsl.out] at hfin
      have Hfin := hid hfin
      have HC9 := hid hC9
      clear hfin hkp hkn h6 hC9 hP9 hG9 hP6 hB6 hr6 hr7 hb11 hub11 hup11 hV11 hBd hPd hrE hrV hrad hrqd hubd hupd hbd hC hCd Hrel Hbl Hlt hBw6 hC6
      go_wp2
      go_ret
      exact ⟨by rfl, BXp.of Hfin.out hM (all_snoc Hall.out Hm0.out) (by rw [List.length_append]; simp; omega) HC9.out (fun x h => h.1)⟩
end Go.Proofs.Ytkoncjcnpconkaa
