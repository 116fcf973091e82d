/- Xa: layer 19: stops in memory. -/
import Derived.Test.YtnhhbbjkeekneaaDoorBC
import Derived.Test.YtnhhbbjkeekneaaDoorNU
namespace Go.Proofs.YtnhhbbjkeekneaaDoor
open Go.RowKit Go.V
/-- the cells of stops -/
def sC (uk : Value) (V : Vc) (T : List Nat) : List Value := [uk, .slice none 0 0, .int .i64 V.n, .int .u16 (V.m : Int)] ++ u16s T
/-- stops at p; F: what their keys read -/
structure SM (w : World) (p : Nat) (uk : Value) (F : Nat → Prop) (ks : List (List UInt8)) (V : Vc) (W T : List Nat) : Prop where
  blk : Blk w p 52 (sC uk V T)
  keys : Rd w F uk (tx (ks.take 16))
  wd : WdS W T
  len : W.length = 16
  vb : V.m < 65536
  f : ∀ x, F x → x ≠ p ∧ x < w.heap.size
theorem SM.keep {w w' : World} {p : Nat} {uk : Value} {F : Nat → Prop} {ks : List (List UInt8)} {V : Vc} {W T : List Nat} (h : SM w p uk F ks V W T) (hs : w.heap.size ≤ w'.heap.size) (hk : ∀ x, x = p ∨ F x → w'.heap[x]? = w.heap[x]?) : SM w' p uk F ks V W T :=
  ⟨h.blk.keep (hk p (.inl rfl)), h.keys.keep (fun x _ hx => ⟨hx, hk x (.inr hx)⟩), h.wd, h.len, h.vb, fun x hx => ⟨(h.f x hx).1, Nat.lt_of_lt_of_le (h.f x hx).2 hs⟩⟩
theorem SM.lt {w : World} {p : Nat} {uk : Value} {F : Nat → Prop} {ks : List (List UInt8)} {V : Vc} {W T : List Nat} (h : SM w p uk F ks V W T) {x : Nat} (hx : x = p ∨ F x) : x < w.heap.size := by
  rcases hx with rfl | hx
  · exact h.blk.lt
  · exact (h.f x hx).2
theorem SM.below {w w' : World} {p : Nat} {uk : Value} {F : Nat → Prop} {ks : List (List UInt8)} {V : Vc} {W T : List Nat} (h : SM w p uk F ks V W T) (hB : Below w.heap.size w w') : SM w' p uk F ks V W T := h.keep hB.size (fun x hx => hB.block x (h.lt hx))
/-- stops at v, in blocks M -/
def SX (w : World) (v : Value) (M N : Nat → Prop) (ks : List (List UInt8)) (V : Vc) (W : List Nat) : Prop :=
  (∀ b, N b → b < w.heap.size) ∧ ∃ (p : Nat) (uk : Value) (F : Nat → Prop) (T : List Nat), v = .pointer (some ⟨p, 0, none⟩) ∧ SM w p uk F ks V W T ∧ ∀ x, M x ↔ x = p ∨ F x
theorem SX.lt {w : World} {v : Value} {M N : Nat → Prop} {ks : List (List UInt8)} {V : Vc} {W : List Nat} (h : SX w v M N ks V W) : ∀ b, M b ∨ N b → b < w.heap.size := by
  obtain ⟨hN, p, uk, F, T, _, hm, hM⟩ := h
  rintro b (hb | hb)
  · exact hm.lt ((hM b).1 hb)
  · exact hN b hb
theorem SX.len {w : World} {v : Value} {M N : Nat → Prop} {ks : List (List UInt8)} {V : Vc} {W : List Nat} (h : SX w v M N ks V W) : W.length = 16 := by
  obtain ⟨_, p, uk, F, T, _, hm, _⟩ := h
  exact hm.len
theorem SX.keep {w w' : World} {v : Value} {M N : Nat → Prop} {ks : List (List UInt8)} {V : Vc} {W : List Nat} (h : SX w v M N ks V W) (hs : w.heap.size ≤ w'.heap.size) (hk : ∀ b, M b ∨ N b → w'.heap[b]? = w.heap[b]?) : SX w' v M N ks V W := by
  obtain ⟨hN, p, uk, F, T, hv, hm, hM⟩ := h
  exact ⟨fun b hb => Nat.lt_of_lt_of_le (hN b hb) hs, p, uk, F, T, hv, hm.keep hs (fun x hx => hk x (.inl ((hM x).2 hx))), hM⟩
theorem SX.below {w w' : World} {v : Value} {M N : Nat → Prop} {ks : List (List UInt8)} {V : Vc} {W : List Nat} (h : SX w v M N ks V W) (hB : Below w.heap.size w w') : SX w' v M N ks V W := h.keep hB.size (fun b hb => hB.block b (h.lt b hb))
/-- what a Take leaves -/
structure SP (w : World) (M : Nat → Prop) (w' : World) (v : Value) (N : Nat → Prop) (ks : List (List UInt8)) (V : Vc) (W : List Nat) (M' : Nat → Prop) : Prop where
  x : SX w' v M' N ks V W
  m : ∀ b, M' b → M b ∨ w.heap.size ≤ b
  c : Ch M w w'
theorem SP.same {w w' : World} {v : Value} {M N : Nat → Prop} {ks : List (List UInt8)} {V : Vc} {W : List Nat} (h : SX w v M N ks V W) (hB : Below w.heap.size w w') : SP w M w' v N ks V W M := ⟨h.below hB, fun _ h => .inl h, (Ch.refl _ _).belowR hB⟩
theorem len_sC (uk : Value) (V : Vc) {T : List Nat} (h : T.length = 41) : (sC uk V T).length = 45 := by unfold sC; rw [List.length_append, len_u16s, h]; rfl
theorem sC_at {uk : Value} {V : Vc} {T : List Nat} {r S : Nat} (h : T[r]? = some S) : (sC uk V T)[4 + r]? = some (.int .u16 (S : Int)) := by
  unfold sC
  rw [List.getElem?_append_right (by show 4 ≤ 4 + r; omega), show 4 + r - [uk, Value.slice none 0 0, .int .i64 V.n, .int .u16 (V.m : Int)].length = r from by show 4 + r - 4 = r; omega]
  exact u16s_at h
theorem sC_set (uk : Value) (V : Vc) (T : List Nat) (r S : Nat) : (sC uk V T).set (4 + r) (.int .u16 (S : Int)) = sC uk V (T.set r S) := by
  unfold sC
  rw [List.set_append_right _ _ (by show 4 ≤ 4 + r; omega), show 4 + r - [uk, Value.slice none 0 0, .int .i64 V.n, .int .u16 (V.m : Int)].length = r from by show 4 + r - 4 = r; omega, set_u16s]
theorem sC_k {w : World} {p : Nat} {uk : Value} {V : Vc} {T : List Nat} {t : TypeId} (h : Blk w p t (sC uk V T)) : w.rangeAt p 0 [uk, .slice none 0 0] := h.range 0 _ (fun j v hv => by
  match j, hv with
  | 0, hv => exact hv
  | 1, hv => exact hv
  | j + 2, hv => cases hv)
theorem sC_v {w : World} {p : Nat} {uk : Value} {V : Vc} {T : List Nat} {t : TypeId} (h : Blk w p t (sC uk V T)) : w.rangeAt p 2 [.int .i64 V.n, .int .u16 (V.m : Int)] := h.range 2 _ (fun j v hv => by
  match j, hv with
  | 0, hv => exact hv
  | 1, hv => exact hv
  | j + 2, hv => cases hv)
/-- is i in the set? -/
theorem isin19_any (S i : Nat) (w : World) (hS : S < 65536) (hi : i < 16) :
    Calls Tryd.prog 16 #[.int .u16 (S : Int), .int .i64 (i : Int)] w fun e w' => e = .returned (.bool (mbit S i)) ∧ Below w.heap.size w w' := by
  have hbit := bit_eq S i hS
  obtain ⟨b, hb⟩ : ∃ b, b = mbit S i := ⟨_, rfl⟩
  rw [← hb] at hbit ⊢
  clear hb
  go_enter Tryd.func16, Tryd.ntmps16
  go_wp2
  go_ret
  exact ⟨rfl, Below.refl _ _⟩
set_option maxRecDepth 100000 in
set_option maxHeartbeats 4000000 in
/-- how many want it -/
theorem scount19_p (p : Nat) (uk : Value) (F : Nat → Prop) (ks : List (List UInt8)) (V : Vc) (W T : List Nat) (r : Nat) (w : World) (hr : r < 41) (h : SM w p uk F ks V W T) :
    Calls Tryd.prog 12 #[.pointer (some ⟨p, 0, none⟩), .int .i64 (r : Int)] w fun e w' => e = .returned (.int .i64 (cntW W (r : Int) : Int)) ∧ Below w.heap.size w w' := by
  obtain ⟨S, hS⟩ : ∃ S, T[r]? = some S := ⟨_, List.getElem?_eq_getElem (by rw [h.wd.len]; exact hr)⟩
  have hc := h.wd.cnt h.len hS
  have hSl := (h.wd.at_ r S hS).1
  have c4 := h.blk.cellAt (4 + r) _ (sC_at hS)
  have hone := fun Y => ones_any S Y hSl
  rw [← hc]
  have hrI : (r : Int) < 41 := by omega
  have hr0 : ¬ (r : Int) < 0 := by omega
  have hr41 : ¬ (r : Int) ≥ 41 := by omega
  clear h hc hS
  go_enter Tryd.func12, Tryd.ntmps12
  go_wp2_with (fail)
  refine (hone _).mono ?_
  rintro e w1 ⟨rfl, k, rfl⟩
  go_wp2
  go_ret
  exact ⟨rfl, bel_drewN (Below.refl _ _) k⟩
end Go.Proofs.YtnhhbbjkeekneaaDoor
