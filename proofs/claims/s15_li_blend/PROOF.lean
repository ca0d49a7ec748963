import PyProof.Rows.All
import Wide.All
import OpenK.AllK
import Wide.FinOn
import Open.SpecLaws
import KE.OsGo
import HandS.ForSpec
import HandS.ForMost
import HandS.Walk
import HandS.Wide
import HandS.SortInts
import PySem.Challenge.RW_evenlight_s15_li_blend
set_option Elab.async false
set_option maxRecDepth 100000
set_option maxHeartbeats 4000000
namespace EvM
/-! numbers and lists alone -/
theorem natural_iff {z : Int} {b : Nat} : Sh55Neutral.natural z b = true ↔ 0 ≤ z ∧ z < 2 ^ b := by
  unfold Sh55Neutral.natural
  rw [Bool.and_eq_true, decide_eq_true_eq, decide_eq_true_eq]
def Nn (l : List Int) : Prop := ∀ z ∈ l, 0 ≤ z
def By (l : List Int) : Prop := ∀ z ∈ l, 0 ≤ z ∧ z < 256
theorem By.nn {l : List Int} (h : By l) : Nn l := fun z hz => (h z hz).1
theorem by_of {l : List Int} (h : l.all (fun (z : Int) => Sh55Neutral.natural z 8) = true) : By l := fun z hz => by
  have := natural_iff.mp (List.all_eq_true.mp h z hz)
  exact ⟨this.1, by have h2 := this.2; simpa using h2⟩
def Wd (l : List Int) : Prop := ∀ z ∈ l, 0 ≤ z ∧ z < 65536
theorem Wd.nn {l : List Int} (h : Wd l) : Nn l := fun z hz => (h z hz).1
theorem wd_of {l : List Int} (h : l.all (fun (z : Int) => Sh55Neutral.natural z 16) = true) : Wd l := fun z hz => by
  have := natural_iff.mp (List.all_eq_true.mp h z hz)
  exact ⟨this.1, by have h2 := this.2; simpa using h2⟩
theorem nats_len (l : List Int) : (Sh55Neutral.nats l).length = l.length := by
  unfold Sh55Neutral.nats; rw [List.length_map]
theorem ints_len (l : List Nat) : (Sh55Neutral.ints l).length = l.length := by
  unfold Sh55Neutral.ints; rw [List.length_map]
theorem ints_nats {l : List Int} (h : Nn l) : Sh55Neutral.ints (Sh55Neutral.nats l) = l := by
  unfold Sh55Neutral.ints Sh55Neutral.nats
  rw [List.map_map]
  conv => rhs; rw [← List.map_id l]
  refine List.map_congr_left fun z hz => ?_
  exact Int.toNat_of_nonneg (h z hz)
theorem nats_ints (l : List Nat) : Sh55Neutral.nats (Sh55Neutral.ints l) = l := by
  unfold Sh55Neutral.ints Sh55Neutral.nats
  rw [List.map_map]
  conv => rhs; rw [← List.map_id l]
  rfl
/-- what a list of numbers that are not negative is -/
theorem Nn.eq {l : List Int} (h : Nn l) : ∃ m : List Nat, l = Sh55Neutral.ints m := ⟨_, (ints_nats h).symm⟩
theorem ints_get (l : List Nat) (i : Nat) : (Sh55Neutral.ints l)[i]? = (l[i]?).map fun (n : Nat) => (n : Int) := by
  unfold Sh55Neutral.ints; rw [List.getElem?_map]
theorem num_eq (l : List Nat) (i : Nat) : Sh55.num l i = (l[i]?).getD 0 := by
  unfold Sh55.num; rw [List.getD_eq_getElem?_getD]
end EvM
namespace EvM
/-! pages -/
def isPage (w : Int) (n : Nat) : Bool := Sh55.page w.toNat (n / w.toNat)
theorem isPage_iff {w : Int} {n : Nat} (h0 : 0 ≤ w) : isPage w n = true ↔ (1 ≤ w ∧ w ≤ 256) ∧ 1 ≤ (n : Int) / w ∧ (n : Int) / w ≤ 256 := by
  obtain ⟨m, rfl⟩ : ∃ m : Nat, w = (m : Int) := ⟨w.toNat, by omega⟩
  unfold isPage Sh55.page Sh55.among
  rw [Int.toNat_natCast]
  simp only [Bool.and_eq_true, decide_eq_true_eq]
  rw [← Int.natCast_ediv]
  omega
/-- the same in natural numbers -/
theorem isPage_nat {w : Int} {n : Nat} (h : isPage w n = true) : 1 ≤ w.toNat ∧ w.toNat ≤ 256 ∧ 1 ≤ n / w.toNat ∧ n / w.toNat ≤ 256 := by
  unfold isPage Sh55.page Sh55.among at h
  simp only [Bool.and_eq_true, decide_eq_true_eq] at h
  exact ⟨h.1.1, h.1.2, h.2.1, h.2.2⟩
/-- a place of a page -/
theorem place {w h n c r : Nat} (hl : n = w * h) (hc : c < w) (hr : r < h) : r * w + c < n := by
  have h2 := Nat.mul_le_mul_left w (show r + 1 ≤ h from hr)
  rw [Nat.mul_add, Nat.mul_one, Nat.mul_comm w r] at h2
  omega
theorem nats_get {l : List Int} {i : Nat} (h : i < l.length) : (Sh55Neutral.nats l)[i]? = some (l[i].toNat) := by
  unfold Sh55Neutral.nats
  rw [List.getElem?_map, List.getElem?_eq_getElem h]
  rfl
theorem at_eq {l : List Int} {w c r : Nat} (h : r * w + c < l.length) : Sh55.at_ w (Sh55Neutral.nats l) c r = l[r * w + c].toNat := by
  unfold Sh55.at_
  rw [num_eq, nats_get h]
  rfl
/-- of each place something, row by row; as whole numbers -/
def eachI (w h : Nat) (f : Nat → Nat → Int) : List Int := (List.range h).flatMap fun r => (List.range w).map fun c => f c r
theorem flatMap_congr' {α β : Type} {f g : α → List β} : ∀ {l : List α}, (∀ a, a ∈ l → f a = g a) → l.flatMap f = l.flatMap g
  | [], _ => rfl
  | a :: l, h => by
    rw [List.flatMap_cons, List.flatMap_cons, h a List.mem_cons_self, flatMap_congr' fun b hb => h b (List.mem_cons_of_mem _ hb)]
theorem each_ints (w h : Nat) (f : Nat → Nat → Nat) : Sh55Neutral.ints (Sh55.each w h f) = eachI w h fun c r => ((f c r : Nat) : Int) := by
  unfold Sh55Neutral.ints Sh55.each eachI
  rw [List.map_flatMap]
  refine flatMap_congr' fun r _ => ?_
  rw [List.map_map]
  rfl
theorem eachI_congr {w h : Nat} {f g : Nat → Nat → Int} (e : ∀ c r, c < w → r < h → f c r = g c r) : eachI w h f = eachI w h g := by
  unfold eachI
  refine flatMap_congr' fun r hr => List.map_congr_left fun c hc => e c r (List.mem_range.mp hc) (List.mem_range.mp hr)
theorem eachI_succ (w h : Nat) (f : Nat → Nat → Int) : eachI w (h + 1) f = eachI w h f ++ (List.range w).map fun c => f c h := by
  unfold eachI
  rw [List.range_succ, List.flatMap_append, List.flatMap_singleton]
theorem eachI_len (w h : Nat) (f : Nat → Nat → Int) : (eachI w h f).length = h * w := by
  induction h with
  | zero => simp [eachI]
  | succ h ih => rw [eachI_succ, List.length_append, ih, List.length_map, List.length_range, Nat.add_mul, Nat.one_mul]
theorem eachI_get {w h : Nat} {f : Nat → Nat → Int} {c r : Nat} (hc : c < w) (hr : r < h) : (eachI w h f)[r * w + c]? = some (f c r) := by
  induction h with
  | zero => omega
  | succ h ih =>
    rw [eachI_succ]
    by_cases e : r < h
    · rw [List.getElem?_append_left (by rw [eachI_len]; exact place (Nat.mul_comm h w) hc e)]
      exact ih e
    · have e2 : r = h := by omega
      subst e2
      rw [List.getElem?_append_right (by rw [eachI_len]; omega), eachI_len, Nat.add_sub_cancel_left, List.getElem?_map, List.getElem?_range hc]
      rfl
/-- the same by one running place -/
theorem eachI_flat {w h : Nat} (hw : 0 < w) (f : Nat → Nat → Int) : eachI w h f = (List.range (h * w)).map fun i => f (i % w) (i / w) := by
  refine List.ext_getElem? fun i => ?_
  by_cases hi : i < h * w
  · have hr : i / w < h := (Nat.div_lt_iff_lt_mul hw).mpr hi
    have e := eachI_get (f := f) (Nat.mod_lt i hw) hr
    rw [Nat.mul_comm, Nat.div_add_mod] at e
    rw [e, List.getElem?_map, List.getElem?_range hi]
    rfl
  · rw [List.getElem?_eq_none (by rw [eachI_len]; omega), List.getElem?_eq_none (by rw [List.length_map, List.length_range]; omega)]
end EvM
namespace EvM
/-! lists of natural numbers and of whole numbers, number by number -/
theorem ints_map {x : List Int} {f : Nat → Nat} {g : Int → Int} (h : ∀ z ∈ x, ((f z.toNat : Nat) : Int) = g z) : Sh55Neutral.ints ((Sh55Neutral.nats x).map f) = x.map g := by
  unfold Sh55Neutral.ints Sh55Neutral.nats
  rw [List.map_map, List.map_map]
  exact List.map_congr_left fun z hz => h z hz
theorem ints_zip {x b : List Int} {f : Nat → Nat → Nat} {g : Int → Int → Int} (h : ∀ z ∈ x, ∀ y ∈ b, ((f z.toNat y.toNat : Nat) : Int) = g z y) :
    Sh55Neutral.ints (((Sh55Neutral.nats x).zip (Sh55Neutral.nats b)).map fun p => f p.1 p.2) = (x.zip b).map fun p => g p.1 p.2 := by
  unfold Sh55Neutral.ints Sh55Neutral.nats
  rw [List.zip_map, List.map_map, List.map_map]
  refine List.map_congr_left fun z hz => ?_
  exact h z.1 (List.of_mem_zip hz).1 z.2 (List.of_mem_zip hz).2
theorem zip_get {x b : List Int} {i : Nat} {z y : Int} (h1 : x[i]? = some z) (h2 : b[i]? = some y) : (x.zip b)[i]? = some (z, y) := by
  rw [List.getElem?_zip_eq_some]
  exact ⟨h1, h2⟩
/-- the byte at column c, row r -/
def pix (w : Nat) (x : List Int) (c r : Nat) : Int := (x[r * w + c]?).getD 0
theorem at_cast {w c r : Nat} {x : List Int} (h : Nn x) : ((Sh55.at_ w (Sh55Neutral.nats x) c r : Nat) : Int) = pix w x c r := by
  unfold Sh55.at_ pix
  rw [num_eq]
  unfold Sh55Neutral.nats
  rw [List.getElem?_map]
  cases e : x[r * w + c]? with
  | none => rfl
  | some z =>
    have := h z (List.mem_of_getElem? e)
    show ((z.toNat : Nat) : Int) = z
    omega
theorem pix_get {w c r h : Nat} {x : List Int} (hl : x.length = w * h) (hc : c < w) (hr : r < h) : x[r * w + c]? = some (pix w x c r) := by
  have := place hl hc hr
  unfold pix
  rw [List.getElem?_eq_getElem this]
  rfl
theorem pix_by {w c r : Nat} {x : List Int} (h : By x) : 0 ≤ pix w x c r ∧ pix w x c r ≤ 255 := by
  unfold pix
  cases e : x[r * w + c]? with
  | none => exact ⟨by decide, by decide⟩
  | some z =>
    have := h z (List.mem_of_getElem? e)
    show 0 ≤ z ∧ z ≤ 255
    omega
theorem page_eq {w h : Nat} {x : List Int} (hw : 0 < w) (hl : x.length = w * h) : x = eachI w h (pix w x) := by
  refine List.ext_getElem? fun i => ?_
  by_cases hi : i < h * w
  · have hr : i / w < h := (Nat.div_lt_iff_lt_mul hw).mpr hi
    have e := eachI_get (f := pix w x) (Nat.mod_lt i hw) hr
    have e2 := pix_get hl (Nat.mod_lt i hw) hr
    rw [Nat.mul_comm, Nat.div_add_mod] at e e2
    rw [e, e2]
  · rw [List.getElem?_eq_none (by rw [hl, Nat.mul_comm]; omega), List.getElem?_eq_none (by rw [eachI_len]; omega)]
theorem eachI_map (w h : Nat) (g : Nat → Nat → Int) (f : Int → Int) : (eachI w h g).map f = eachI w h fun c r => f (g c r) := by
  unfold eachI
  rw [List.map_flatMap]
  refine flatMap_congr' fun r _ => ?_
  rw [List.map_map]
  rfl
/-- a row of a page -/
def rowI (w : Nat) (g : Nat → Nat → Int) (r : Nat) : List Int := (List.range w).map fun c => g c r
theorem rowI_len (w : Nat) (g : Nat → Nat → Int) (r : Nat) : (rowI w g r).length = w := by
  unfold rowI
  rw [List.length_map, List.length_range]
theorem rowI_get {w : Nat} {g : Nat → Nat → Int} {r c : Nat} (hc : c < w) : (rowI w g r)[c]? = some (g c r) := by
  unfold rowI
  rw [List.getElem?_map, List.getElem?_range hc]
  rfl
theorem eachI_row {w h : Nat} {g : Nat → Nat → Int} {r : Nat} (hr : r < h) : ((eachI w h g).drop (r * w)).take w = rowI w g r := by
  refine List.ext_getElem? fun i => ?_
  rw [List.getElem?_take, List.getElem?_drop]
  by_cases hi : i < w
  · rw [if_pos hi, eachI_get hi hr, rowI_get hi]
  · rw [if_neg hi, List.getElem?_eq_none (by rw [rowI_len]; omega)]
end EvM
namespace EvM
/-! li_blend -/
theorem blend_okB {k : Int} {x : List Int} (hk : 0 ≤ k) : ((decide (k.toNat ≤ 256) && Sh55.few (Sh55Neutral.nats x).length)) = true ↔ (k ≤ 256 ∧ x.length ≤ 65536) := by
  rw [nats_len]
  unfold Sh55.few
  simp only [Bool.and_eq_true, decide_eq_true_eq]
  omega
theorem blend_asked {k : Int} {x y : List Int} (h : PySh55.li_blend_asked k x y = true) : 0 ≤ k ∧ By x ∧ By y ∧ y.length = x.length := by
  have h : (Sh55Neutral.asked1 [[14, k], x, y] && _) = true := h
  rw [Bool.and_eq_true] at h
  have h1 : (Sh55Neutral.natural k 32 && (x.all (fun (z : Int) => Sh55Neutral.natural z 8) && (y.all (fun (z : Int) => Sh55Neutral.natural z 8) && (if ((decide (k.toNat ≤ 256) && Sh55.few (Sh55Neutral.nats x).length)) = true then x.length == (Sh55Neutral.nats x).length && y.length == (Sh55Neutral.nats x).length else (x.isEmpty && y.isEmpty) || (x.length == (Sh55Neutral.nats x).length && y.length == (Sh55Neutral.nats x).length))))) = true := h.1
  rw [Bool.and_eq_true, Bool.and_eq_true, Bool.and_eq_true] at h1
  refine ⟨(natural_iff.mp h1.1).1, by_of h1.2.1, by_of h1.2.2.1, ?_⟩
  have h2 := h1.2.2.2
  rw [nats_len] at h2
  split at h2
  · rw [Bool.and_eq_true, beq_iff_eq, beq_iff_eq] at h2
    exact h2.2
  · rw [Bool.or_eq_true, Bool.and_eq_true, Bool.and_eq_true, beq_iff_eq, beq_iff_eq, List.isEmpty_iff, List.isEmpty_iff] at h2
    rcases h2 with h2 | h2
    · rw [h2.1, h2.2]
    · exact h2.2
theorem blend_bad {k : Int} {x y : List Int} (hk : 0 ≤ k) (h : ¬ (k ≤ 256 ∧ x.length ≤ 65536)) : PySh55.li_blend k x y = [-2] := by
  show Sh55Neutral.f [[14, k], x, y] = _
  unfold Sh55Neutral.f Sh55Neutral.callOf
  have hf : ((decide (k.toNat ≤ 256) && Sh55.few (Sh55Neutral.nats x).length)) = false := by
    cases e : ((decide (k.toNat ≤ 256) && Sh55.few (Sh55Neutral.nats x).length)) with
    | false => rfl
    | true => exact absurd ((blend_okB hk).mp e) h
  simp only [hf]
  rfl
theorem blend_ok {k : Int} {x y : List Int} (hk : 0 ≤ k) (h : k ≤ 256 ∧ x.length ≤ 65536) : PySh55.li_blend k x y = 0 :: Sh55Neutral.ints (((Sh55Neutral.nats x).zip (Sh55Neutral.nats y)).map fun p => Sh55.blend k.toNat p.1 p.2) := by
  show Sh55Neutral.f [[14, k], x, y] = _
  unfold Sh55Neutral.f Sh55Neutral.callOf
  have hf : ((decide (k.toNat ≤ 256) && Sh55.few (Sh55Neutral.nats x).length)) = true := (blend_okB hk).mpr h
  simp only [hf, if_true]
  rfl
end EvM
namespace EvM
def blendI (k a b : Int) : Int := (a * (256 - k) + b * k + 128) / 256
theorem blend_cast {k a b : Int} (hk : 0 ≤ k) (h : k ≤ 256) (ha : 0 ≤ a) (hb : 0 ≤ b) : ((Sh55.blend k.toNat a.toNat b.toNat : Nat) : Int) = blendI k a b := by
  obtain ⟨m, rfl⟩ : ∃ m : Nat, k = m := ⟨k.toNat, by omega⟩
  obtain ⟨c, rfl⟩ : ∃ m : Nat, a = m := ⟨a.toNat, by omega⟩
  obtain ⟨d, rfl⟩ : ∃ m : Nat, b = m := ⟨b.toNat, by omega⟩
  simp only [Int.toNat_natCast]
  unfold Sh55.blend blendI
  have e : (256 : Int) - (m : Int) = ((256 - m : Nat) : Int) := by omega
  rw [e, ← Int.natCast_mul, ← Int.natCast_mul]
  omega
theorem blend_list {k : Int} {x y : List Int} (hk : 0 ≤ k) (h : k ≤ 256) (hx : By x) (hy : By y) : Sh55Neutral.ints (((Sh55Neutral.nats x).zip (Sh55Neutral.nats y)).map fun p => Sh55.blend k.toNat p.1 p.2) = (x.zip y).map fun p => blendI k p.1 p.2 :=
  ints_zip fun z hz v hv => blend_cast hk h (hx z hz).1 (hy v hv).1
end EvM
namespace Ev
open PySem PySem.Spec PyProof.Rows L2
/-! small words over the hand layer -/
theorem same_upd {H : Hp} {p : Addr} {o : HO} (h : H p = none) : Same H (upd H p o) := fun b x e => by
  rw [upd_ne (ne_of_none e h)]
  exact e
/-- xs[j] by values, for xs[j] += e -/
def rGetL (K : PySem.W.Frag) : V → V → Hp → VK → Prop := fun x y H Q => ∃ (p : Addr) (xs : List V) (j : Nat) (v : V), x = .ref p ∧ y = .int j ∧ SqL K H p xs ∧ xs[j]? = some v ∧ Q v H
theorem get_list {X : Cx} : PGet X (rGetL X.K) := by
  intro pins s σ H x y v u Q I rx ry h
  obtain ⟨p, xs, j, z, rfl, rfl, hq, he, q⟩ := h
  cases rx
  obtain ⟨t, rfl⟩ := ry
  obtain ⟨its, r, pl, hz⟩ := I.list hq
  obtain ⟨w, ew, rw'⟩ := r.get he
  have hj : j < xs.length := (List.getElem?_eq_some_iff.mp he).1
  have hl := r.length
  have hn := line63
  exact wpAny_getItem_list pl.isList (by omega) (by omega) (by rw [Int.toNat_natCast]; simpa using ew) ⟨z, H, I, rw', q⟩
theorem ixN_nat {n j : Nat} (h : j < n) : ixN n (j : Int) = some j := by
  unfold ixN
  rw [if_pos (by omega), if_pos (by omega), Int.toNat_natCast]
theorem map_set {α β : Type} (f : α → β) (l : List α) (i : Nat) (a : α) : (l.map f).set i (f a) = (l.set i a).map f := by
  rw [List.map_set]
theorem get_int {l : List Int} {i : Nat} {y : V} (h : (l.map V.int)[i]? = some y) : ∃ z, l[i]? = some z ∧ y = V.int z := by
  rw [List.getElem?_map] at h
  cases e : l[i]? with
  | none => rw [e] at h; cases h
  | some z => rw [e] at h; exact ⟨z, rfl, (Option.some.inj h).symm⟩
theorem int_get {l : List Int} {i : Nat} {z : Int} (h : l[i]? = some z) : (l.map V.int)[i]? = some (V.int z) := by
  rw [List.getElem?_map, h]
  rfl
theorem take_more {α : Type} {l : List α} {i : Nat} {x : α} (h : l[i]? = some x) : l.take (i + 1) = l.take i ++ [x] := by
  rw [List.take_add_one, h]
  rfl
end Ev
namespace Ev
open PySem PySem.Spec PyProof.Rows L2
theorem cut_nat (l : List Int) (i j : Nat) : cutV (l.map V.int) (some (i : Int)) (some (j : Int)) = ((l.drop i).take (j - i)).map V.int := by
  unfold cutV
  rw [HT.sIx_nat, HT.sIx_nat, List.length_map, ← List.map_drop, ← List.map_take]
  congr 1
  by_cases h : i ≤ l.length
  · rw [Nat.min_eq_left h]
    by_cases h2 : j ≤ l.length
    · rw [Nat.min_eq_left h2]
    · rw [Nat.min_eq_right (by omega), List.take_of_length_le (by rw [List.length_drop]; omega), List.take_of_length_le (by rw [List.length_drop]; omega)]
  · rw [List.drop_eq_nil_of_le (by omega), List.drop_eq_nil_of_le (by omega), List.take_nil, List.take_nil]
theorem rgC_up {i j c : Int} {n : Nat} (hc : 0 < c) (hc2 : c < 1073741824) (hi : 0 ≤ i) (hi2 : i < 2 ^ 60) (hj : 0 ≤ j) (hj2 : j < 2 ^ 60) (hn : (n : Int) = if i < j then (j - i - 1) / c + 1 else 0) : RgC i j c n := by
  have hs : Builtin.Range.rangeSize i j c = n := by
    unfold Builtin.Range.rangeSize
    rw [if_pos hc, hn]
  have hn2 : (n : Int) < 2 ^ 62 := by
    rw [hn]
    split
    · have h1 : (j - i - 1) / c ≤ j - i - 1 := Int.ediv_le_self _ (by omega)
      omega
    · decide
  refine ⟨by omega, by omega, ?_, hs⟩
  unfold Builtin.Range.small
  rw [hs]
  unfold Builtin.Range.rangeFitsLong
  simp only [Bool.and_eq_true, Bool.or_eq_true, decide_eq_true_eq]
  rw [if_pos hc]
  simp only [Bool.and_eq_true, decide_eq_true_eq]
  omega
end Ev
namespace Ev
open PySem PySem.Spec PyProof.Rows L2
/-- the end of a comprehension's turn where nothing else is made -/
theorem lc_fin {H0 : Hp} {D : Addr} {l l' : List Int} {v : Int} (hl : l.length < sizeLine) (e : l' = l ++ [v]) :
    ∃ acc, upd H0 D (.lst (l.map V.int)) D = some (.lst acc) ∧ acc.length < sizeLine ∧ upd (upd H0 D (.lst (l.map V.int))) D (.lst (acc ++ [.int v])) = upd H0 D (.lst (l'.map V.int)) := by
  refine ⟨_, upd_same, by rw [List.length_map]; exact hl, ?_⟩
  rw [upd_upd, e, List.map_append]
  rfl
theorem map_more {l : List Int} {f : Int → Int} {i : Nat} {z : Int} (h : l[i]? = some z) : (l.take (i + 1)).map f = (l.take i).map f ++ [f z] := by
  rw [take_more h, List.map_append]
  rfl
theorem range_more (f : Nat → Int) (i : Nat) : (List.range (i + 1)).map f = (List.range i).map f ++ [f i] := by
  rw [List.range_succ, List.map_append]
  rfl
theorem cutV_nat (l : List V) (i j : Nat) : cutV l (some (i : Int)) (some (j : Int)) = (l.drop i).take (j - i) := by
  unfold cutV
  rw [HT.sIx_nat, HT.sIx_nat]
  by_cases h : i ≤ l.length
  · rw [Nat.min_eq_left h]
    by_cases h2 : j ≤ l.length
    · rw [Nat.min_eq_left h2]
    · rw [Nat.min_eq_right (by omega), List.take_of_length_le (by rw [List.length_drop]; omega), List.take_of_length_le (by rw [List.length_drop]; omega)]
  · rw [List.drop_eq_nil_of_le (by omega), List.drop_eq_nil_of_le (by omega), List.take_nil, List.take_nil]
theorem at_natE {l : List V} {j : Int} {i : Nat} {v : V} (e : j = (i : Int)) (h : l[i]? = some v) : atI l j = some v := at_of e h
theorem small {n : Nat} (h : n ≤ 16777216) : n ≤ sizeLine := Nat.le_trans h (by decide)
theorem smallS {n : Nat} (h : n < 16777216) : n < sizeLine := Nat.lt_of_lt_of_le h (by decide)
end Ev
namespace Ev
open PySem PySem.Spec PyProof.Rows L2
open PySem.W (Codec)
def top (i : Nat) : Stmt := PySem.Challenge.pw_evenlight_s15_li_blend.main.body.getD i (.Pass ⟨0, 0, 0, 0⟩)
abbrev s_li_blend : Stmt := top 4
theorem sc_li_blend : FnScope ["k", "x", "y", "one", "other"] ["k", "x", "y"] (defScope s_li_blend) := ⟨rfl, rfl, rfl, by decide +kernel, rfl, by decide +kernel, by decide +kernel⟩
section
variable {P : Program} {w : World} {K : PySem.W.Frag} {mg : Str → Option Value} {base : Heap}
def sp_li_blend (K : PySem.W.Frag) : Sp := fun vs H Q _ => ∃ (k : Int) (a_x : Addr) (x : List Int) (a_y : Addr) (y : List Int), vs = [.int k, .ref a_x, .ref a_y] ∧ SqL K H a_x (x.map V.int) ∧ x.length ≤ 70000 ∧ SqL K H a_y (y.map V.int) ∧ y.length ≤ 70000 ∧ PySh55.li_blend_asked k x y = true ∧
  ∀ (H' : Hp) (p : Addr), H' p = some (.lst ((PySh55.li_blend k x y).map V.int)) → Q (.ref p) H'
theorem sp_li_blend_len {K : PySem.W.Frag} {vs : List V} {H : Hp} {Q : VK} {E : XK} (h : sp_li_blend K vs H Q E) : vs.length = 3 := by
  obtain ⟨_, _, _, _, _, rfl, _⟩ := h
  rfl
/-! li_blend: slots 0 k, 1 x, 2 y, 3 one, 4 other -/
theorem ok_li_blend {f : Addr} {fd : FuncData} (F : Fun K "li_blend" "li_blend" s_li_blend f fd)
    (g_zip : mg "zip" = none)
    (g_len : mg "len" = none)
    {t_WHOLE : Tok} (c_WHOLE : mg "WHOLE" = some (.int (256) t_WHOLE))
    {t_MOST_BYTES : Tok} (c_MOST_BYTES : mg "MOST_BYTES" = some (.int (65536) t_MOST_BYTES))
    {t_OUT_OF_RANGE : Tok} (c_OUT_OF_RANGE : mg "OUT_OF_RANGE" = some (.int (-2) t_OUT_OF_RANGE)) : FnOk P w K mg base CX0 1 f fd ["k", "x", "y"] (sp_li_blend K) := by
  refine F.ok sc_li_blend (fun vs H Q E h => ?_) (fun cdv A outer s H vs Q E hr h => ?_)
  · exact sp_li_blend_len h
  · refine ⟨_, (pss_cons (ps_if (PW.pt (pw_or (pt_cmpR op_gt (pv 0) (pe_glob (v := .int (256)) (by rfl) c_WHOLE ⟨_, rfl⟩) (nomark _)) (pw_or1 (pt_cmpR op_gt (pe_callB call_len_seq (by rfl) g_len PySem.boot_len (pa_cons (pv 1) pa_nil)) (pe_glob (v := .int (65536)) (by rfl) c_MOST_BYTES ⟨_, rfl⟩) (nomark _))))) (pss_one (ps_ret (pe_lst (pa_cons (pe_glob (v := .int (-2)) (by rfl) c_OUT_OF_RANGE ⟨_, rfl⟩) pa_nil)))) pss_nil)
      (pss_one (ps_ret (pe_op op_cat (pe_lst (pa_cons pe_int pa_nil)) (pe_lc (own := [("one", 3), ("other", 4)]) (g := (gTup K 2 (gCons (gName 3) (gCons (gName 4) gNil)))) (tt := tYes) (by rfl) sc_li_blend.nd (pi_zip (by rfl) g_zip (pa_cons (pv 1) (pa_cons (pv 2) pa_nil))) (blkOk_by (own := [("one", 3), ("other", 4)]) (N := ["k", "x", "y", "one", "other"]) (sc := defScope s_li_blend) (by decide +kernel)) (fun _ _ _ _ _ => (pg_tup (by rfl) (pgs_cons (pg_name (i := 3) sc_li_blend.nd rfl (Or.inl rfl)) (pgs_cons (pg_name (i := 4) sc_li_blend.nd rfl (Or.inl rfl)) pgs_nil)))) (fun _ _ _ _ _ => pts_nil) (fun _ _ _ _ _ => (pe_op op_fdiv (pe_op op_add (pe_op op_add (pe_op op_mul (pv 3) (pe_op op_sub (pe_glob (v := .int (256)) (by rfl) c_WHOLE ⟨_, rfl⟩) (pv 0))) (pe_op op_mul (pv 4) (pv 0))) (pe_op op_fdiv (pe_glob (v := .int (256)) (by rfl) c_WHOLE ⟨_, rfl⟩) pe_int)) (pe_glob (v := .int (256)) (by rfl) c_WHOLE ⟨_, rfl⟩)))))))), ?_⟩
    obtain ⟨k, a, x, a', y, rfl, hS, hlen, hS', hlen', hask, q⟩ := h
    obtain ⟨hk, hx, hy, hl⟩ := EvM.blend_asked hask
    have bad : ¬ (k ≤ 256 ∧ x.length ≤ 65536) → ∀ p, H p = none → Q (.ref p) (upd H p (.lst [.int (-2)])) := fun z p hp => q _ p (by
      rw [upd_same, EvM.blend_bad hk z]
      rfl)
    refine ⟨_, rfl, _, _, rfl, rfl, _, rfl, ite2 (fun e => ?_) (fun e => ?_)⟩
    · have e : 256 < k := of_decide_eq_true e
      exact iteT ⟨by decide, bad fun z => absurd z.1 (by omega)⟩
    · have e : ¬ 256 < k := fun z => e (decide_eq_true z)
      refine ⟨_, rfl, a, _, rfl, .inl hS, _, _, rfl, rfl, _, rfl, ite2 (fun e3 => ?_) (fun e3 => ?_)⟩
      · have e3 := of_decide_eq_true e3
        rw [List.length_map] at e3
        exact ⟨by decide, bad fun z => absurd z.2 (by omega)⟩
      · have e3 : ¬ (65536 : Int) < ((x.map V.int).length : Int) := fun z => e3 (decide_eq_true z)
        rw [List.length_map] at e3
        refine ⟨by decide, fun o no => ?_⟩
        have s0 : Same H (upd H o (.lst [.int 0])) := same_upd no
        refine ⟨_, rfl, _, rfl, a, a', _, _, rfl, s0.seq hS, s0.seq hS', fun D nD => lc_it (walk_zip (xs := x.map V.int) (ys := y.map V.int) (n := x.length) (by rw [List.length_map, List.length_map]; omega))
          (fun i H' => Same (upd H o (.lst [.int 0])) H' ∧ H' D = some (.lst ((((x.zip y).take i).map fun p => EvM.blendI k p.1 p.2).map V.int)))
          ⟨same_upd nD, upd_same⟩ (fun i H' _ e => ⟨(s0.trans e.1).seq hS, (s0.trans e.1).seq hS'⟩) ?_ ?_⟩
        · rintro i v H1 H2 hi ⟨s1, hD⟩ ⟨T, v1, v2, rfl, nT, rfl, g1, g2⟩
          obtain ⟨z, hz, rfl⟩ := get_int g1
          obtain ⟨y', hy', rfl⟩ := get_int g2
          have bz := hx z (List.mem_of_getElem? hz)
          have by' := hy y' (List.mem_of_getElem? hy')
          have nTD : D ≠ T := ne_of_none hD nT
          refine ⟨T, _, rfl, SqT.of upd_same, rfl, _, _, rfl, _, _, rfl, rfl, rfl, ?_⟩
          refine ⟨_, rfl, _, rfl, _, _, rfl, rfl, _, _, rfl, rfl, .inl ⟨by omega, by omega⟩, _, rfl, _, rfl, _, _, rfl, rfl, .inl ⟨by omega, by omega⟩, _, _, rfl, rfl, _, _, rfl, rfl, ⟨by decide, by decide⟩, _, _, rfl, rfl, _, _, rfl, rfl, ⟨by decide, by decide⟩, ?_⟩
          refine ⟨_, (upd_ne nTD).trans hD, ?_, fun b o e => ?_, ?_⟩
          · rw [List.length_map, List.length_map, List.length_take, List.length_zip]
            exact smallS (by omega)
          · rw [upd_ne (ne_of_none e nD), upd_ne (ne_of_none (s1 _ _ e) nT)]
            exact s1 _ _ e
          · rw [upd_same, take_more (EvM.zip_get hz hy'), List.map_append, List.map_append]
            rfl
        · rintro H1 ⟨s1, hD⟩
          rw [List.take_of_length_le (by rw [List.length_zip]; omega)] at hD
          refine ⟨o, D, _, _, rfl, rfl, s1 _ _ upd_same, hD, small ?_, fun r nr => q _ r ?_⟩
          · rw [List.length_map, List.length_map, List.length_zip]
            show 1 + _ ≤ _
            omega
          · rw [upd_same, EvM.blend_ok hk ⟨by omega, by omega⟩, EvM.blend_list hk (by omega) hx hy]
            rfl
end
theorem all_mk {P : Program} {w : World} {K : PySem.W.Frag} {h : Heap} {mg : Str → Option Value} {fa : Addr} (X : K.In h) (G : h.Ns mainGlobals mg) (hfa : mg "li_blend" = some (.ref fa))
    {f0 : Addr} {od0 an0 : Option Addr} {sl0 : Array (Option Value)} {oc0 kV0 dc0 pm0 cd0 ct0 : Value}
    (a0 : PySem.W.nsIn K mainGlobals "li_blend" = some (some (.ref f0))) (l0 : K.lookup f0 = some ⟨oc0, od0, .func (PySem.W.fnOf "li_blend" "li_blend" (defArgs s_li_blend) (defBody s_li_blend) (defScope s_li_blend) .none kV0 dc0 pm0 an0 cd0 ct0), sl0⟩) (q0 : PySem.W.codeIn K cd0 "li_blend" = true) (k0 : PySem.W.keepIn K (.ref f0) = true)
    (z_len : PySem.W.nsIn K mainGlobals "len" = some none)
    (z_zip : PySem.W.nsIn K mainGlobals "zip" = some none)
    {t_MOST_BYTES : Tok} (y_MOST_BYTES : PySem.W.nsIn K mainGlobals "MOST_BYTES" = some (some (.int (65536) t_MOST_BYTES)))
    {t_OUT_OF_RANGE : Tok} (y_OUT_OF_RANGE : PySem.W.nsIn K mainGlobals "OUT_OF_RANGE" = some (some (.int (-2) t_OUT_OF_RANGE)))
    {t_WHOLE : Tok} (y_WHOLE : PySem.W.nsIn K mainGlobals "WHOLE" = some (some (.int (256) t_WHOLE)))
    : ∃ fd : FuncData, (∀ (s : Shared) (us : List Value), us.length = (["k", "x", "y"] : List Str).length → BindsTo s fd ⟨us, []⟩ ((["k", "x", "y"] : List Str).zip us)) ∧ ∀ base : Heap, K.In base → base.Ns mainGlobals mg → FnOk P w K mg base CX0 1 fa fd ["k", "x", "y"] (sp_li_blend K) := by
  have e := hfa.symm.trans (PySem.W.mg_of X G a0)
  cases e
  have F0 := fun_mk (st := s_li_blend) l0 q0 k0
  have b0 := F0.binds (ps := ["k", "x", "y"]) fun _ _ _ _ _ _ us hl => match us, hl with | [_, _, _], _ => rfl
  refine ⟨PySem.W.fnOf "li_blend" "li_blend" (defArgs s_li_blend) (defBody s_li_blend) (defScope s_li_blend) .none kV0 dc0 pm0 an0 cd0 ct0, fun s us hu => match us, hu with | [_, _, _], _ => .of_eq rfl, fun base _ _ => ?_⟩
  have O0 : FnOk P w K mg base CX0 1 _ _ ["k", "x", "y"] (sp_li_blend K) := ok_li_blend F0 (PySem.W.mg_none_of X G z_zip) (PySem.W.mg_none_of X G z_len) (PySem.W.mg_of X G y_WHOLE) (PySem.W.mg_of X G y_MOST_BYTES) (PySem.W.mg_of X G y_OUT_OF_RANGE)
  exact O0
theorem end_li_blend {K : PySem.W.Frag} {H : Hp} {k : Int} {a_x : Addr} {x : List Int} {a_y : Addr} {y : List Int} (h_x : SqL K H a_x (x.map V.int)) (h_y : SqL K H a_y (y.map V.int)) (hwi : (Codec.inInt (0) (4294967295) k && ((Codec.inLen 0 70000 x && x.all (Codec.inInt (0) (255))) && ((Codec.inLen 0 70000 y && y.all (Codec.inInt (0) (255))) && true))) = true) (hask : PySh55.li_blend_asked k x y = true) :
    sp_li_blend K [.int k, .ref a_x, .ref a_y] H (fun v H' => Dw K H' v (.list ((PySh55.li_blend k x y).map .int))) fun _ _ _ => False := by
  obtain ⟨w_k, hwi⟩ := Bool.and_eq_true_iff.mp hwi
  obtain ⟨w_x, hwi⟩ := Bool.and_eq_true_iff.mp hwi
  obtain ⟨l_x, _⟩ := Bool.and_eq_true_iff.mp w_x
  obtain ⟨w_y, hwi⟩ := Bool.and_eq_true_iff.mp hwi
  obtain ⟨l_y, _⟩ := Bool.and_eq_true_iff.mp w_y
  exact ⟨k, _, x, _, y, rfl, h_x, (Codec.inNat_iff.mp l_x).2, h_y, (Codec.inNat_iff.mp l_y).2, hask, fun H' p hp => .lst (L2.SqL.of hp) (L2.dw_ints _)⟩
end Ev
open PySem PySem.W PyProof.Rows
set_option maxRecDepth 100000 in
set_option maxHeartbeats 8000000 in
theorem PySem.Challenge.cw_evenlight_s15_li_blend_holds : PySem.Challenge.rw_evenlight_s15_li_blend.Holds := by
  w_on; k_headS; (case hw => exact ⟨[.int 0, .list [], .list []], by decide +kernel, by decide +kernel⟩)
  k_fillS
  refine L2.walk_specK (r := PySem.Challenge.rw_evenlight_s15_li_blend) (k := 1) (CX := L2.CX0) (ps := ["k", "x", "y"]) (sp := Ev.sp_li_blend) (by decide +kernel) rfl rfl ⟨rfl, by decide, by decide⟩ (fun w h Y => PySem.W.kIn_of Y) ?F ?S (fun _ _ _ _ z => z)
  case F =>
    intro w mg fa h Y KX G hmg
    refine' Ev.all_mk KX G hmg ?a0 ?l0 ?q0 ?k0 ?z_len ?z_zip ?y_MOST_BYTES ?y_OUT_OF_RANGE ?y_WHOLE
    (case a0 => k_is)
    (case l0 => k_is)
    (case q0 => k_is)
    (case k0 => k_is)
    (case z_len => k_is)
    (case z_zip => k_is)
    (case y_MOST_BYTES => k_is)
    (case y_OUT_OF_RANGE => k_is)
    (case y_WHOLE => k_is)
  case S =>
    intro K H xs a hO hwi hask hx
    obtain ⟨a0, a1, a2, u⟩ := a
    cases hx with
    | cons h0 hx =>
    cases hx with
    | cons h1 hx =>
    cases hx with
    | cons h2 hx =>
    cases hx
    cases h0
    cases h1 with
    | lst hs1 ha1 =>
    have e1 := L2.ints_dw a1 _ ha1
    subst e1
    cases h2 with
    | lst hs2 ha2 =>
    have e2 := L2.ints_dw a2 _ ha2
    subst e2
    exact Ev.end_li_blend hs1 hs2 hwi hask
#print axioms PySem.Challenge.cw_evenlight_s15_li_blend_holds
