import PyProof.Rows.All
import Wide.All
import OpenK.AllK
import Wide.FinOn
import Open.SpecLaws
import KE.OsGo
import HandS.ForSpec
import HandS.ForMost
import HandS.Walk
import HandS.Wide
import HandS.SortInts
import PySem.Challenge.RW_evenlight_s04_li_black
set_option Elab.async false
set_option maxRecDepth 100000
set_option maxHeartbeats 4000000
namespace EvM
/-! numbers and lists alone -/
theorem natural_iff {z : Int} {b : Nat} : Sh55Neutral.natural z b = true ↔ 0 ≤ z ∧ z < 2 ^ b := by
  unfold Sh55Neutral.natural
  rw [Bool.and_eq_true, decide_eq_true_eq, decide_eq_true_eq]
def Nn (l : List Int) : Prop := ∀ z ∈ l, 0 ≤ z
def By (l : List Int) : Prop := ∀ z ∈ l, 0 ≤ z ∧ z < 256
theorem By.nn {l : List Int} (h : By l) : Nn l := fun z hz => (h z hz).1
theorem by_of {l : List Int} (h : l.all (fun (z : Int) => Sh55Neutral.natural z 8) = true) : By l := fun z hz => by
  have := natural_iff.mp (List.all_eq_true.mp h z hz)
  exact ⟨this.1, by have h2 := this.2; simpa using h2⟩
def Wd (l : List Int) : Prop := ∀ z ∈ l, 0 ≤ z ∧ z < 65536
theorem Wd.nn {l : List Int} (h : Wd l) : Nn l := fun z hz => (h z hz).1
theorem wd_of {l : List Int} (h : l.all (fun (z : Int) => Sh55Neutral.natural z 16) = true) : Wd l := fun z hz => by
  have := natural_iff.mp (List.all_eq_true.mp h z hz)
  exact ⟨this.1, by have h2 := this.2; simpa using h2⟩
theorem nats_len (l : List Int) : (Sh55Neutral.nats l).length = l.length := by
  unfold Sh55Neutral.nats; rw [List.length_map]
theorem ints_len (l : List Nat) : (Sh55Neutral.ints l).length = l.length := by
  unfold Sh55Neutral.ints; rw [List.length_map]
theorem ints_nats {l : List Int} (h : Nn l) : Sh55Neutral.ints (Sh55Neutral.nats l) = l := by
  unfold Sh55Neutral.ints Sh55Neutral.nats
  rw [List.map_map]
  conv => rhs; rw [← List.map_id l]
  refine List.map_congr_left fun z hz => ?_
  exact Int.toNat_of_nonneg (h z hz)
theorem nats_ints (l : List Nat) : Sh55Neutral.nats (Sh55Neutral.ints l) = l := by
  unfold Sh55Neutral.ints Sh55Neutral.nats
  rw [List.map_map]
  conv => rhs; rw [← List.map_id l]
  rfl
/-- what a list of numbers that are not negative is -/
theorem Nn.eq {l : List Int} (h : Nn l) : ∃ m : List Nat, l = Sh55Neutral.ints m := ⟨_, (ints_nats h).symm⟩
theorem ints_get (l : List Nat) (i : Nat) : (Sh55Neutral.ints l)[i]? = (l[i]?).map fun (n : Nat) => (n : Int) := by
  unfold Sh55Neutral.ints; rw [List.getElem?_map]
theorem num_eq (l : List Nat) (i : Nat) : Sh55.num l i = (l[i]?).getD 0 := by
  unfold Sh55.num; rw [List.getD_eq_getElem?_getD]
end EvM
namespace EvM
/-! pages -/
def isPage (w : Int) (n : Nat) : Bool := Sh55.page w.toNat (n / w.toNat)
theorem isPage_iff {w : Int} {n : Nat} (h0 : 0 ≤ w) : isPage w n = true ↔ (1 ≤ w ∧ w ≤ 256) ∧ 1 ≤ (n : Int) / w ∧ (n : Int) / w ≤ 256 := by
  obtain ⟨m, rfl⟩ : ∃ m : Nat, w = (m : Int) := ⟨w.toNat, by omega⟩
  unfold isPage Sh55.page Sh55.among
  rw [Int.toNat_natCast]
  simp only [Bool.and_eq_true, decide_eq_true_eq]
  rw [← Int.natCast_ediv]
  omega
/-- the same in natural numbers -/
theorem isPage_nat {w : Int} {n : Nat} (h : isPage w n = true) : 1 ≤ w.toNat ∧ w.toNat ≤ 256 ∧ 1 ≤ n / w.toNat ∧ n / w.toNat ≤ 256 := by
  unfold isPage Sh55.page Sh55.among at h
  simp only [Bool.and_eq_true, decide_eq_true_eq] at h
  exact ⟨h.1.1, h.1.2, h.2.1, h.2.2⟩
/-- a place of a page -/
theorem place {w h n c r : Nat} (hl : n = w * h) (hc : c < w) (hr : r < h) : r * w + c < n := by
  have h2 := Nat.mul_le_mul_left w (show r + 1 ≤ h from hr)
  rw [Nat.mul_add, Nat.mul_one, Nat.mul_comm w r] at h2
  omega
theorem nats_get {l : List Int} {i : Nat} (h : i < l.length) : (Sh55Neutral.nats l)[i]? = some (l[i].toNat) := by
  unfold Sh55Neutral.nats
  rw [List.getElem?_map, List.getElem?_eq_getElem h]
  rfl
theorem at_eq {l : List Int} {w c r : Nat} (h : r * w + c < l.length) : Sh55.at_ w (Sh55Neutral.nats l) c r = l[r * w + c].toNat := by
  unfold Sh55.at_
  rw [num_eq, nats_get h]
  rfl
/-- of each place something, row by row; as whole numbers -/
def eachI (w h : Nat) (f : Nat → Nat → Int) : List Int := (List.range h).flatMap fun r => (List.range w).map fun c => f c r
theorem flatMap_congr' {α β : Type} {f g : α → List β} : ∀ {l : List α}, (∀ a, a ∈ l → f a = g a) → l.flatMap f = l.flatMap g
  | [], _ => rfl
  | a :: l, h => by
    rw [List.flatMap_cons, List.flatMap_cons, h a List.mem_cons_self, flatMap_congr' fun b hb => h b (List.mem_cons_of_mem _ hb)]
theorem each_ints (w h : Nat) (f : Nat → Nat → Nat) : Sh55Neutral.ints (Sh55.each w h f) = eachI w h fun c r => ((f c r : Nat) : Int) := by
  unfold Sh55Neutral.ints Sh55.each eachI
  rw [List.map_flatMap]
  refine flatMap_congr' fun r _ => ?_
  rw [List.map_map]
  rfl
theorem eachI_congr {w h : Nat} {f g : Nat → Nat → Int} (e : ∀ c r, c < w → r < h → f c r = g c r) : eachI w h f = eachI w h g := by
  unfold eachI
  refine flatMap_congr' fun r hr => List.map_congr_left fun c hc => e c r (List.mem_range.mp hc) (List.mem_range.mp hr)
theorem eachI_succ (w h : Nat) (f : Nat → Nat → Int) : eachI w (h + 1) f = eachI w h f ++ (List.range w).map fun c => f c h := by
  unfold eachI
  rw [List.range_succ, List.flatMap_append, List.flatMap_singleton]
theorem eachI_len (w h : Nat) (f : Nat → Nat → Int) : (eachI w h f).length = h * w := by
  induction h with
  | zero => simp [eachI]
  | succ h ih => rw [eachI_succ, List.length_append, ih, List.length_map, List.length_range, Nat.add_mul, Nat.one_mul]
theorem eachI_get {w h : Nat} {f : Nat → Nat → Int} {c r : Nat} (hc : c < w) (hr : r < h) : (eachI w h f)[r * w + c]? = some (f c r) := by
  induction h with
  | zero => omega
  | succ h ih =>
    rw [eachI_succ]
    by_cases e : r < h
    · rw [List.getElem?_append_left (by rw [eachI_len]; exact place (Nat.mul_comm h w) hc e)]
      exact ih e
    · have e2 : r = h := by omega
      subst e2
      rw [List.getElem?_append_right (by rw [eachI_len]; omega), eachI_len, Nat.add_sub_cancel_left, List.getElem?_map, List.getElem?_range hc]
      rfl
/-- the same by one running place -/
theorem eachI_flat {w h : Nat} (hw : 0 < w) (f : Nat → Nat → Int) : eachI w h f = (List.range (h * w)).map fun i => f (i % w) (i / w) := by
  refine List.ext_getElem? fun i => ?_
  by_cases hi : i < h * w
  · have hr : i / w < h := (Nat.div_lt_iff_lt_mul hw).mpr hi
    have e := eachI_get (f := f) (Nat.mod_lt i hw) hr
    rw [Nat.mul_comm, Nat.div_add_mod] at e
    rw [e, List.getElem?_map, List.getElem?_range hi]
    rfl
  · rw [List.getElem?_eq_none (by rw [eachI_len]; omega), List.getElem?_eq_none (by rw [List.length_map, List.length_range]; omega)]
end EvM
namespace EvM
/-! words of dots -/
def word : List Int → Int
  | [] => 0
  | d :: r => word r * 2 + d
theorem word_eq : ∀ (l : List Int) (n : Nat), l.length ≤ n → word l = ((List.range n).map fun j => (l[j]?).getD 0 * 2 ^ j).sum
  | [], n, _ => by
    show (0 : Int) = _
    have e : ((List.range n).map fun j => (([] : List Int)[j]?).getD 0 * 2 ^ j) = (List.range n).map fun _ => (0 : Int) := List.map_congr_left fun j _ => by simp
    rw [e]
    clear e
    induction n with
    | zero => rfl
    | succ n ih => rw [List.range_succ, List.map_append, List.sum_append, ← ih] <;> simp
  | d :: r, 0, h => by simp at h
  | d :: r, n + 1, h => by
    have ih := word_eq r n (by simpa using h)
    rw [List.range_succ_eq_map, List.map_cons, List.sum_cons, List.map_map]
    show word r * 2 + d = _
    rw [ih]
    have e : ((List.range n).map ((fun j => ((d :: r)[j]?).getD 0 * 2 ^ j) ∘ Nat.succ)) = (List.range n).map fun j => ((r[j]?).getD 0 * 2 ^ j) * 2 := List.map_congr_left fun j _ => by
      show ((d :: r)[j + 1]?).getD 0 * 2 ^ (j + 1) = _
      rw [List.getElem?_cons_succ, Int.pow_succ, Int.mul_assoc]
    rw [e]
    have e2 : ∀ (f : Nat → Int) (l : List Nat), (l.map fun j => f j * 2).sum = (l.map f).sum * 2 := fun f l => by
      induction l with
      | nil => rfl
      | cons a l ih => rw [List.map_cons, List.sum_cons, ih, List.map_cons, List.sum_cons, Int.add_mul]
    rw [e2]
    simp
    omega
/-- the word from place s on, of at most 32, within the row that ends ahead of e -/
def cell (ns : List Int) (s e : Nat) : Int := word ((ns.drop s).take (min (s + 32) e - s))
def rowW (w : Nat) (ns : List Int) (r k : Nat) : List Int := (List.range k).map fun j => cell ns (r * w + 32 * j) (r * w + w)
def wordsW (w h : Nat) (ns : List Int) : List Int := (List.range h).flatMap fun r => rowW w ns r ((w + 31) / 32)
theorem wordsW_succ (w r : Nat) (ns : List Int) : wordsW w (r + 1) ns = wordsW w r ns ++ rowW w ns r ((w + 31) / 32) := by
  unfold wordsW
  rw [List.range_succ, List.flatMap_append, List.flatMap_singleton]
theorem rowW_succ (w r k : Nat) (ns : List Int) : rowW w ns r (k + 1) = rowW w ns r k ++ [cell ns (r * w + 32 * k) (r * w + w)] := by
  unfold rowW
  rw [List.range_succ, List.map_append]
  rfl
theorem rowW_len (w r k : Nat) (ns : List Int) : (rowW w ns r k).length = k := by
  unfold rowW
  rw [List.length_map, List.length_range]
theorem wordsW_len (w h : Nat) (ns : List Int) : (wordsW w h ns).length = h * ((w + 31) / 32) := by
  induction h with
  | zero => simp [wordsW]
  | succ h ih => rw [wordsW_succ, List.length_append, ih, rowW_len, Nat.add_mul, Nat.one_mul]
/-- the words are the specification's dots -/
theorem words_dots {w h : Nat} {ns : List Int} {black : Nat → Nat → Bool} (hb : ∀ c r, c < w → r < h → ns[r * w + c]? = some (if black c r = true then 1 else 0)) :
    Sh55Neutral.ints (Sh55.dots w h black) = wordsW w h ns := by
  unfold Sh55Neutral.ints Sh55.dots wordsW
  rw [List.map_flatMap]
  have key : ∀ r, r ∈ List.range h → (List.map (fun (x : Nat) => (x : Int)) ((List.range ((w + 31) / 32)).map fun k => ((List.range 32).map fun j => if 32 * k + j < w ∧ black (32 * k + j) r = true then 2 ^ j else 0).sum)) = rowW w ns r ((w + 31) / 32) := by
    intro r hr
    have hr : r < h := List.mem_range.mp hr
    unfold rowW
    rw [List.map_map]
    refine List.map_congr_left fun k hk => ?_
    have hk : k < (w + 31) / 32 := List.mem_range.mp hk
    show ((((List.range 32).map fun j => if 32 * k + j < w ∧ black (32 * k + j) r = true then 2 ^ j else 0).sum : Nat) : Int) = cell ns (r * w + 32 * k) (r * w + w)
    unfold cell
    rw [word_eq _ 32 (by rw [List.length_take]; omega)]
    have cast : ∀ (f : Nat → Nat) (l : List Nat), (((l.map f).sum : Nat) : Int) = (l.map fun j => ((f j : Nat) : Int)).sum := fun f l => by
      induction l with
      | nil => rfl
      | cons a l ih => rw [List.map_cons, List.sum_cons, List.map_cons, List.sum_cons, ← ih]; omega
    rw [cast]
    congr 1
    refine List.map_congr_left fun j hj => ?_
    have hj : j < 32 := List.mem_range.mp hj
    rw [List.getElem?_take, List.getElem?_drop]
    by_cases hc : 32 * k + j < w
    · rw [if_pos (show j < min (r * w + 32 * k + 32) (r * w + w) - (r * w + 32 * k) by omega), show r * w + 32 * k + j = r * w + (32 * k + j) by omega, hb _ _ hc hr]
      cases hB : black (32 * k + j) r with
      | true =>
        rw [if_pos ⟨hc, rfl⟩, if_pos rfl]
        show ((2 ^ j : Nat) : Int) = 1 * 2 ^ j
        rw [Int.one_mul, Int.natCast_pow] <;> rfl
      | false =>
        rw [if_neg (fun z => Bool.false_ne_true z.2), if_neg Bool.false_ne_true]
        show ((0 : Nat) : Int) = 0 * 2 ^ j
        rw [Int.zero_mul] <;> rfl
    · rw [if_neg (fun z => hc z.1), if_neg (show ¬ j < min (r * w + 32 * k + 32) (r * w + w) - (r * w + 32 * k) by omega)]
      show ((0 : Nat) : Int) = 0 * 2 ^ j
      rw [Int.zero_mul] <;> rfl
  exact flatMap_congr' key
end EvM
namespace EvM
/-! li_black -/
def bits (t : Int) (l : List Int) : List Int := l.map fun v => if v ≤ t then 1 else 0
theorem black_asked {w t : Int} {l : List Int} (h : PySh55.li_black_asked w t l = true) : 0 ≤ w ∧ 0 ≤ t ∧ By l ∧ (isPage w l.length = true → t ≤ 255 → l.length = w.toNat * (l.length / w.toNat)) := by
  have h : (Sh55Neutral.asked1 [[3, w, t], l] && _) = true := h
  rw [Bool.and_eq_true] at h
  have h1 : (Sh55Neutral.natural w 32 && (Sh55Neutral.natural t 32 && (l.all (fun (z : Int) => Sh55Neutral.natural z 8) && ((if (Sh55.page w.toNat ((Sh55Neutral.nats l).length / w.toNat) && decide (t.toNat ≤ 255)) = true then l.length == w.toNat * ((Sh55Neutral.nats l).length / w.toNat) else _))))) = true := h.1
  rw [Bool.and_eq_true, Bool.and_eq_true, Bool.and_eq_true] at h1
  refine ⟨(natural_iff.mp h1.1).1, (natural_iff.mp h1.2.1).1, by_of h1.2.2.1, fun hp ht => ?_⟩
  have h2 := h1.2.2.2
  rw [nats_len] at h2
  rw [if_pos (by rw [Bool.and_eq_true]; exact ⟨hp, decide_eq_true (by omega)⟩)] at h2
  exact beq_iff_eq.mp h2
theorem black_bad {w t : Int} {l : List Int} (h : ¬ (isPage w l.length = true ∧ t ≤ 255)) : PySh55.li_black w t l = [-2] := by
  show Sh55Neutral.f [[3, w, t], l] = _
  unfold Sh55Neutral.f Sh55Neutral.callOf
  have hf : (Sh55.page w.toNat ((Sh55Neutral.nats l).length / w.toNat) && decide (t.toNat ≤ 255)) = false := by
    rw [nats_len]
    cases e : (Sh55.page w.toNat (l.length / w.toNat) && decide (t.toNat ≤ 255)) with
    | false => rfl
    | true =>
      rw [Bool.and_eq_true, decide_eq_true_eq] at e
      exact absurd ⟨e.1, by omega⟩ h
  simp only [hf]
  rfl
theorem black_ok {w t : Int} {l : List Int} (ht : 0 ≤ t) (hb : By l) (hp : isPage w l.length = true) (h255 : t ≤ 255) (hl : l.length = w.toNat * (l.length / w.toNat)) :
    PySh55.li_black w t l = 0 :: wordsW w.toNat (l.length / w.toNat) (bits t l) := by
  show Sh55Neutral.f [[3, w, t], l] = _
  unfold Sh55Neutral.f Sh55Neutral.callOf
  have hf : (Sh55.page w.toNat ((Sh55Neutral.nats l).length / w.toNat) && decide (t.toNat ≤ 255)) = true := by
    rw [nats_len, Bool.and_eq_true]
    exact ⟨hp, decide_eq_true (by omega)⟩
  simp only [hf, if_true]
  show (0 : Int) :: Sh55Neutral.ints (Sh55.dots w.toNat (Sh55.rowsOf w.toNat (Sh55Neutral.nats l)) fun c r => decide (Sh55.at_ w.toNat (Sh55Neutral.nats l) c r ≤ t.toNat)) = _
  unfold Sh55.rowsOf
  rw [nats_len]
  refine congrArg _ (words_dots fun c r hc hr => ?_)
  have hi : r * w.toNat + c < l.length := by
    rw [hl]
    have : r + 1 ≤ l.length / w.toNat := hr
    have h2 := Nat.mul_le_mul_left w.toNat this
    rw [Nat.mul_add, Nat.mul_one, Nat.mul_comm] at h2
    omega
  unfold bits
  rw [List.getElem?_map, List.getElem?_eq_getElem hi]
  unfold Sh55.at_
  rw [num_eq]
  unfold Sh55Neutral.nats
  rw [List.getElem?_map, List.getElem?_eq_getElem hi]
  have hz := hb _ (List.getElem_mem hi)
  show some (if l[r * w.toNat + c] ≤ t then (1 : Int) else 0) = some (if decide ((l[r * w.toNat + c]).toNat ≤ t.toNat) = true then 1 else 0)
  by_cases e : l[r * w.toNat + c] ≤ t
  · rw [if_pos e, if_pos (decide_eq_true (by omega))]
  · rw [if_neg e, if_neg (fun z => e (by have := of_decide_eq_true z; omega))]
end EvM
namespace Ev
open PySem PySem.Spec PyProof.Rows L2
/-! small words over the hand layer -/
theorem same_upd {H : Hp} {p : Addr} {o : HO} (h : H p = none) : Same H (upd H p o) := fun b x e => by
  rw [upd_ne (ne_of_none e h)]
  exact e
/-- xs[j] by values, for xs[j] += e -/
def rGetL (K : PySem.W.Frag) : V → V → Hp → VK → Prop := fun x y H Q => ∃ (p : Addr) (xs : List V) (j : Nat) (v : V), x = .ref p ∧ y = .int j ∧ SqL K H p xs ∧ xs[j]? = some v ∧ Q v H
theorem get_list {X : Cx} : PGet X (rGetL X.K) := by
  intro pins s σ H x y v u Q I rx ry h
  obtain ⟨p, xs, j, z, rfl, rfl, hq, he, q⟩ := h
  cases rx
  obtain ⟨t, rfl⟩ := ry
  obtain ⟨its, r, pl, hz⟩ := I.list hq
  obtain ⟨w, ew, rw'⟩ := r.get he
  have hj : j < xs.length := (List.getElem?_eq_some_iff.mp he).1
  have hl := r.length
  have hn := line63
  exact wpAny_getItem_list pl.isList (by omega) (by omega) (by rw [Int.toNat_natCast]; simpa using ew) ⟨z, H, I, rw', q⟩
theorem ixN_nat {n j : Nat} (h : j < n) : ixN n (j : Int) = some j := by
  unfold ixN
  rw [if_pos (by omega), if_pos (by omega), Int.toNat_natCast]
theorem map_set {α β : Type} (f : α → β) (l : List α) (i : Nat) (a : α) : (l.map f).set i (f a) = (l.set i a).map f := by
  rw [List.map_set]
theorem get_int {l : List Int} {i : Nat} {y : V} (h : (l.map V.int)[i]? = some y) : ∃ z, l[i]? = some z ∧ y = V.int z := by
  rw [List.getElem?_map] at h
  cases e : l[i]? with
  | none => rw [e] at h; cases h
  | some z => rw [e] at h; exact ⟨z, rfl, (Option.some.inj h).symm⟩
theorem int_get {l : List Int} {i : Nat} {z : Int} (h : l[i]? = some z) : (l.map V.int)[i]? = some (V.int z) := by
  rw [List.getElem?_map, h]
  rfl
theorem take_more {α : Type} {l : List α} {i : Nat} {x : α} (h : l[i]? = some x) : l.take (i + 1) = l.take i ++ [x] := by
  rw [List.take_add_one, h]
  rfl
end Ev
namespace Ev
open PySem PySem.Spec PyProof.Rows L2
theorem cut_nat (l : List Int) (i j : Nat) : cutV (l.map V.int) (some (i : Int)) (some (j : Int)) = ((l.drop i).take (j - i)).map V.int := by
  unfold cutV
  rw [HT.sIx_nat, HT.sIx_nat, List.length_map, ← List.map_drop, ← List.map_take]
  congr 1
  by_cases h : i ≤ l.length
  · rw [Nat.min_eq_left h]
    by_cases h2 : j ≤ l.length
    · rw [Nat.min_eq_left h2]
    · rw [Nat.min_eq_right (by omega), List.take_of_length_le (by rw [List.length_drop]; omega), List.take_of_length_le (by rw [List.length_drop]; omega)]
  · rw [List.drop_eq_nil_of_le (by omega), List.drop_eq_nil_of_le (by omega), List.take_nil, List.take_nil]
theorem rgC_up {i j c : Int} {n : Nat} (hc : 0 < c) (hc2 : c < 1073741824) (hi : 0 ≤ i) (hi2 : i < 2 ^ 60) (hj : 0 ≤ j) (hj2 : j < 2 ^ 60) (hn : (n : Int) = if i < j then (j - i - 1) / c + 1 else 0) : RgC i j c n := by
  have hs : Builtin.Range.rangeSize i j c = n := by
    unfold Builtin.Range.rangeSize
    rw [if_pos hc, hn]
  have hn2 : (n : Int) < 2 ^ 62 := by
    rw [hn]
    split
    · have h1 : (j - i - 1) / c ≤ j - i - 1 := Int.ediv_le_self _ (by omega)
      omega
    · decide
  refine ⟨by omega, by omega, ?_, hs⟩
  unfold Builtin.Range.small
  rw [hs]
  unfold Builtin.Range.rangeFitsLong
  simp only [Bool.and_eq_true, Bool.or_eq_true, decide_eq_true_eq]
  rw [if_pos hc]
  simp only [Bool.and_eq_true, decide_eq_true_eq]
  omega
end Ev
namespace Ev
open PySem PySem.Spec PyProof.Rows L2
open PySem.W (Codec)
def top (i : Nat) : Stmt := PySem.Challenge.pw_evenlight_s04_li_black.main.body.getD i (.Pass ⟨0, 0, 0, 0⟩)
abbrev s_word_of_dots : Stmt := top 8
theorem sc_word_of_dots : FnScope ["dots", "word", "dot"] ["dots"] (defScope s_word_of_dots) := ⟨rfl, rfl, rfl, by decide +kernel, rfl, by decide +kernel, by decide +kernel⟩
abbrev s_words_of_page : Stmt := top 7
theorem sc_words_of_page : FnScope ["w", "dots", "words", "start", "end", "first"] ["w", "dots"] (defScope s_words_of_page) := ⟨rfl, rfl, rfl, by decide +kernel, rfl, by decide +kernel, by decide +kernel⟩
abbrev s_is_page : Stmt := top 6
theorem sc_is_page : FnScope ["w", "x", "h"] ["w", "x"] (defScope s_is_page) := ⟨rfl, rfl, rfl, by decide +kernel, rfl, by decide +kernel, by decide +kernel⟩
abbrev s_li_black : Stmt := top 5
theorem sc_li_black : FnScope ["w", "t", "x", "value"] ["w", "t", "x"] (defScope s_li_black) := ⟨rfl, rfl, rfl, by decide +kernel, rfl, by decide +kernel, by decide +kernel⟩
section
variable {P : Program} {w : World} {K : PySem.W.Frag} {mg : Str → Option Value} {base : Heap}
def sp_word_of_dots (K : PySem.W.Frag) : Sp := fun vs H Q _ => ∃ (a : Addr) (ns : List Int), vs = [.ref a] ∧ SqL K H a (ns.map V.int) ∧ Q (.int (EvM.word ns)) H
theorem sp_word_of_dots_len {K : PySem.W.Frag} {vs : List V} {H : Hp} {Q : VK} {E : XK} (h : sp_word_of_dots K vs H Q E) : vs.length = 1 := by
  obtain ⟨_, _, rfl, _⟩ := h
  rfl
theorem word_back {ns : List Int} {i : Nat} {z : Int} (h : ns[ns.length - 1 - i]? = some z) (hi : i < ns.length) : EvM.word (ns.drop (ns.length - (i + 1))) = EvM.word (ns.drop (ns.length - i)) * 2 + z := by
  have e : ns.drop (ns.length - (i + 1)) = z :: ns.drop (ns.length - i) := by
    have e1 : ns.length - (i + 1) = ns.length - 1 - i := by omega
    have e2 : ns.length - i = ns.length - 1 - i + 1 := by omega
    obtain ⟨hl, hz⟩ := List.getElem?_eq_some_iff.mp h
    rw [e1, e2, List.drop_eq_getElem_cons hl, hz]
  rw [e]
  rfl
/-! word_of_dots: slots 0 dots, 1 word, 2 dot -/
theorem ok_word_of_dots {f : Addr} {fd : FuncData} (F : Fun K "word_of_dots" "word_of_dots" s_word_of_dots f fd)
    (g_reversed : mg "reversed" = none) : FnOk P w K mg base CX0 1 f fd ["dots"] (sp_word_of_dots K) := by
  refine F.ok sc_word_of_dots (fun vs H Q E h => ?_) (fun cdv A outer s H vs Q E hr h => ?_)
  · exact sp_word_of_dots_len h
  · refine ⟨_, (pss_cons (ps_set (i := 1) sc_word_of_dots.nd rfl (Or.inl rfl) pe_int)
      (pss_cons (ps_for PassesOwn.never rfl (pi_reversed (by rfl) g_reversed (pa_cons (pv 0) pa_nil)) (pg_name (i := 2) sc_word_of_dots.nd rfl (Or.inl rfl))
      (pss_one (ps_set (i := 1) sc_word_of_dots.nd rfl (Or.inl rfl) (pe_op op_add (pe_op op_mul (pv 1) pe_int) (pv 2)))))
      (pss_one (ps_ret (pv 1))))), ?_⟩
    obtain ⟨a, ns, rfl, hS, q⟩ := h
    refine ⟨_, rfl, a, _, rfl, hS, for_it (walk_rev (xs := ns.map V.int)) (fun i σ H' => ∃ v : Option V, σ = [some (.ref a), some (.int (EvM.word (ns.drop (ns.length - i)))), v] ∧ H' = H)
      ⟨none, ?_, rfl⟩ (fun i σ H' _ ⟨_, _, e⟩ => e ▸ hS) ?_ ?_⟩
    · rw [Nat.sub_zero, List.drop_length]
      rfl
    · rintro i y σ H1 H2 hi ⟨v, rfl, rfl⟩ ⟨rfl, hy⟩
      rw [List.length_map] at hi hy
      obtain ⟨z, hz, rfl⟩ := get_int hy
      refine ⟨_, rfl, _, _, rfl, rfl, .inr ⟨by decide, by decide⟩, _, rfl, _, _, rfl, rfl, some (.int z), ?_, rfl⟩
      rw [word_back hz hi]
      rfl
    · rintro σ H1 ⟨v, rfl, rfl⟩
      rw [List.length_map, Nat.sub_self, List.drop_zero]
      exact ⟨_, rfl, q⟩
def sp_words_of_page (K : PySem.W.Frag) : Sp := fun vs H Q _ => ∃ (w : Nat) (a : Addr) (ns : List Int) (h : Nat), vs = [.int w, .ref a] ∧ SqL K H a (ns.map V.int) ∧ 1 ≤ w ∧ w ≤ 256 ∧ h ≤ 256 ∧ ns.length = w * h ∧
  ∀ (H' : Hp) (p : Addr), Same H H' → H p = none → H' p = some (.lst ((EvM.wordsW w h ns).map V.int)) → Q (.ref p) H'
theorem sp_words_of_page_len {K : PySem.W.Frag} {vs : List V} {H : Hp} {Q : VK} {E : XK} (h : sp_words_of_page K vs H Q E) : vs.length = 2 := by
  obtain ⟨_, _, _, _, rfl, _⟩ := h
  rfl
/-! words_of_page: slots 0 w, 1 dots, 2 words, 3 start, 4 end, 5 first -/
theorem ok_words_of_page {f : Addr} {fd : FuncData} (F : Fun K "words_of_page" "words_of_page" s_words_of_page f fd)
    (g_range : mg "range" = none)
    (g_len : mg "len" = none)
    (g_min : mg "min" = none)
    {t_WORD_BITS : Tok} (c_WORD_BITS : mg "WORD_BITS" = some (.int (32) t_WORD_BITS))
    {f_word_of_dots : Addr} {fd_word_of_dots : FuncData} (G_word_of_dots : FnOk P w K mg base CX0 1 f_word_of_dots fd_word_of_dots ["dots"] (sp_word_of_dots K)) (m_word_of_dots : mg "word_of_dots" = some (.ref f_word_of_dots)) (k_word_of_dots : PySem.W.keepIn K (.ref f_word_of_dots) = true) (b_word_of_dots : Binds K fd_word_of_dots ["dots"] []) : FnOk P w K mg base CX0 2 f fd ["w", "dots"] (sp_words_of_page K) := by
  refine F.ok sc_words_of_page (fun vs H Q E h => ?_) (fun cdv A outer s H vs Q E hr h => ?_)
  · exact sp_words_of_page_len h
  · refine ⟨_, (pss_cons (ps_set (i := 2) sc_words_of_page.nd rfl (Or.inl rfl) (pe_lst pa_nil))
      (pss_cons (ps_for PassesOwn.never rfl (pi_range3 (by rfl) g_range (pa_cons pe_int (pa_cons (pe_callB call_len_seq (by rfl) g_len PySem.boot_len (pa_cons (pv 1) pa_nil)) (pa_cons (pv 0) pa_nil)))) (pg_name (i := 3) sc_words_of_page.nd rfl (Or.inl rfl))
      (pss_cons (ps_set (i := 4) sc_words_of_page.nd rfl (Or.inl rfl) (pe_op op_add (pv 3) (pv 0)))
      (pss_one (ps_for PassesOwn.never rfl (pi_range3 (by rfl) g_range (pa_cons (pv 3) (pa_cons (pv 4) (pa_cons (pe_glob (v := .int (32)) (by rfl) c_WORD_BITS ⟨_, rfl⟩) pa_nil)))) (pg_name (i := 5) sc_words_of_page.nd rfl (Or.inl rfl))
      (pss_one (ps_expr (pe_bm PySem.F.plainAttrs_list PySem.F.slot_list_append PySem.F.type_list_append mt_append (pv 2) (pa_cons (pe_call G_word_of_dots (hr.mono (by decide)) (by rfl) m_word_of_dots k_word_of_dots b_word_of_dots .nil pass0 (pa_cons (pe_slice sl_list (pv 1) (po_some (pv 5)) (po_some (pe_callB (call_min2 rfl) (by rfl) g_min (by decide +kernel) (pa_cons (pe_op op_add (pv 5) (pe_glob (v := .int (32)) (by rfl) c_WORD_BITS ⟨_, rfl⟩)) (pa_cons (pv 4) pa_nil))))) pa_nil)) pa_nil))))))))
      (pss_one (ps_ret (pv 2))))), ?_⟩
    obtain ⟨w, a, ns, h, rfl, hS, hw1, hw2, hh, hlen, q⟩ := h
    have wh : w * h ≤ 65536 := Nat.mul_le_mul hw2 hh
    have m8 : (w + 31) / 32 ≤ 8 := by omega
    refine ⟨by decide, fun o no => ?_⟩
    have s0 : Same H (upd H o (.lst [])) := same_upd no
    refine ⟨_, rfl, a, _, rfl, .inl (s0.seq hS), _, rfl, _, _, _, h, rfl, rgC_up (by omega) (by omega) (by decide) (by decide) (by omega) (by rw [List.length_map, hlen]; omega) ?_, ?_⟩
    · rw [List.length_map, hlen]
      by_cases h0 : h = 0
      · subst h0
        simp
      · have hp : 1 ≤ w * h := Nat.mul_le_mul hw1 (by omega : 1 ≤ h)
        rw [if_pos (by omega)]
        have e : ((w * h : Nat) : Int) - 0 - 1 = ((w * h - 1 : Nat) : Int) := by omega
        rw [e, ← Int.natCast_ediv]
        have e2 : (w * h - 1) / w = h - 1 := by
          obtain ⟨j, rfl⟩ : ∃ j, h = j + 1 := ⟨h - 1, by omega⟩
          rw [Nat.mul_add, Nat.mul_one, show w * j + w - 1 = (w - 1) + w * j by omega, Nat.add_mul_div_left _ _ (by omega), Nat.div_eq_of_lt (by omega)]
          omega
        rw [e2]
        omega
    · refine for_rangeC (fun r σ H' => ∃ v3 v4 v5 : Option V, σ = [some (.int w), some (.ref a), some (.ref o), v3, v4, v5] ∧ r ≤ h ∧ Same H H' ∧ H' o = some (.lst ((EvM.wordsW w r ns).map V.int)))
        ⟨none, none, none, rfl, by omega, s0, upd_same⟩ ?_ ?_
      · rintro r σ H1 hr ⟨v3, v4, v5, rfl, _, s1, ho⟩
        have er : (0 : Int) + (r : Nat) * (w : Int) = ((r * w : Nat) : Int) := by
          rw [Int.natCast_mul]
          omega
        have rw1 : (r + 1) * w ≤ h * w := Nat.mul_le_mul_right w hr
        rw [Nat.add_mul, Nat.one_mul, Nat.mul_comm h w] at rw1
        rw [er]
        refine ⟨_, rfl, _, rfl, _, _, rfl, rfl, ?_⟩
        refine ⟨_, rfl, _, rfl, _, _, _, (w + 31) / 32, rfl, rgC_up (by decide) (by decide) (by omega) (by omega) (by omega) (by omega) ?_, ?_⟩
        · rw [if_pos (by omega)]
          omega
        · refine for_rangeC (fun k σ H' => ∃ v5 : Option V, σ = [some (.int w), some (.ref a), some (.ref o), some (.int ((r * w : Nat) : Int)), some (.int (((r * w : Nat) : Int) + (w : Int))), v5] ∧ k ≤ (w + 31) / 32 ∧ Same H H' ∧ H' o = some (.lst ((EvM.wordsW w r ns ++ EvM.rowW w ns r k).map V.int)))
            ⟨v5, rfl, by omega, s1, ?_⟩ ?_ ?_
          · rw [ho]
            unfold EvM.rowW
            rw [List.range_zero, List.map_nil, List.append_nil]
          · rintro k σ H2 hk ⟨v5, rfl, _, s2, ho2⟩
            have ek : ((r * w : Nat) : Int) + (k : Nat) * (32 : Int) = ((r * w + 32 * k : Nat) : Int) := by omega
            rw [ek]
            refine ⟨_, rfl, .inl ⟨rfl, _, SqL.of ho2⟩, _, rfl, _, rfl, _, rfl, _, rfl, _, _, rfl, rfl, _, rfl, _, _, rfl, _, rfl, a, _, rfl, s2.seq hS, fun p np => ?_⟩
            refine ⟨p, (ns.drop (r * w + 32 * k)).take (min (r * w + 32 * k + 32) (r * w + w) - (r * w + 32 * k)), rfl, SqL.of ?_, ?_⟩
            · rw [upd_same, ← cut_nat]
              have e3 : (if ((r * w : Nat) : Int) + (w : Int) < ((r * w + 32 * k : Nat) : Int) + 32 then ((r * w : Nat) : Int) + (w : Int) else ((r * w + 32 * k : Nat) : Int) + 32) = ((min (r * w + 32 * k + 32) (r * w + w) : Nat) : Int) := by
                split <;> omega
              rw [← e3]
            · have ho3 : upd H2 p (.lst (cutV (ns.map V.int) (some ((r * w + 32 * k : Nat) : Int)) (some (if ((r * w : Nat) : Int) + (w : Int) < ((r * w + 32 * k : Nat) : Int) + 32 then ((r * w : Nat) : Int) + (w : Int) else ((r * w + 32 * k : Nat) : Int) + 32)))) o = some (.lst ((EvM.wordsW w r ns ++ EvM.rowW w ns r k).map V.int)) := by
                rw [upd_ne (ne_of_none ho2 np)]
                exact ho2
              refine ⟨o, _, _, rfl, rfl, ho3, ?_, some (.int ((r * w + 32 * k : Nat) : Int)), rfl, by omega, fun b x e => ?_, ?_⟩
              · rw [List.length_map, List.length_append, EvM.wordsW_len, EvM.rowW_len]
                have h1 : r * ((w + 31) / 32) ≤ 256 * 8 := Nat.mul_le_mul (by omega) m8
                have h2 : (256 * 8 + 8 : Nat) < sizeLine := by decide
                omega
              · rw [upd_ne (ne_of_none e no)]
                exact same_upd np _ _ (s2 _ _ e)
              · rw [upd_same, EvM.rowW_succ, ← List.append_assoc, List.map_append (l₂ := [_])]
                rfl
          · rintro σ H2 ⟨v5, rfl, _, s2, ho2⟩
            refine ⟨_, _, v5, rfl, hr, s2, ?_⟩
            rw [ho2, EvM.wordsW_succ]
      · rintro σ H1 ⟨v3, v4, v5, rfl, _, s1, ho⟩
        exact ⟨_, rfl, q _ o s1 no ho⟩
def sp_is_page (K : PySem.W.Frag) : Sp := fun vs H Q _ => ∃ (w : Int) (a : Addr) (xs : List Int), vs = [.int w, .ref a] ∧ SqL K H a (xs.map V.int) ∧ 0 ≤ w ∧ Q (.bl (EvM.isPage w xs.length)) H
theorem sp_is_page_len {K : PySem.W.Frag} {vs : List V} {H : Hp} {Q : VK} {E : XK} (h : sp_is_page K vs H Q E) : vs.length = 2 := by
  obtain ⟨_, _, _, rfl, _⟩ := h
  rfl
/-! is_page: slots 0 w, 1 x, 2 h -/
theorem ok_is_page {f : Addr} {fd : FuncData} (F : Fun K "is_page" "is_page" s_is_page f fd)
    (g_len : mg "len" = none)
    {t_MOST_SIDE : Tok} (c_MOST_SIDE : mg "MOST_SIDE" = some (.int (256) t_MOST_SIDE)) : FnOk P w K mg base CX0 1 f fd ["w", "x"] (sp_is_page K) := by
  refine F.ok sc_is_page (fun vs H Q E h => ?_) (fun cdv A outer s H vs Q E hr h => ?_)
  · exact sp_is_page_len h
  · refine ⟨_, (pss_cons (ps_if (PW.pt (pw_or (pt_cmpR op_lt (pv 0) pe_int (nomark _)) (pw_or1 (pt_cmpR op_gt (pv 0) (pe_glob (v := .int (256)) (by rfl) c_MOST_SIDE ⟨_, rfl⟩) (nomark _))))) (pss_one (ps_ret pe_bl)) pss_nil)
      (pss_cons (ps_set (i := 2) sc_is_page.nd rfl (Or.inl rfl) (pe_op op_fdiv (pe_callB call_len_seq (by rfl) g_len PySem.boot_len (pa_cons (pv 1) pa_nil)) (pv 0)))
      (pss_one (ps_ret (pe_and (pe_cmpR op_ge (pv 2) pe_int (nomark _)) (pe_one (pe_cmpR op_le (pv 2) (pe_glob (v := .int (256)) (by rfl) c_MOST_SIDE ⟨_, rfl⟩) (nomark _)))))))), ?_⟩
    obtain ⟨w, a, xs, rfl, hS, h0, q⟩ := h
    have no : ¬ (1 ≤ w ∧ w ≤ 256) → Q (.bl false) H := fun z => by
      have e : EvM.isPage w xs.length = false := by
        cases e : EvM.isPage w xs.length with
        | false => rfl
        | true => exact absurd ((EvM.isPage_iff h0).mp e).1 z
      rw [e] at q
      exact q
    refine ⟨_, rfl, _, _, rfl, rfl, _, rfl, ite2 (fun e => ?_) (fun e => ?_)⟩
    · have e : w < 1 := of_decide_eq_true e
      exact iteT (no (by omega))
    · have e : ¬ w < 1 := fun z => e (decide_eq_true z)
      refine ⟨_, rfl, _, _, rfl, rfl, _, rfl, ite2 (fun e2 => ?_) (fun e2 => ?_)⟩
      · have e2 : 256 < w := of_decide_eq_true e2
        exact no (by omega)
      · have e2 : ¬ 256 < w := fun z => e2 (decide_eq_true z)
        refine ⟨_, rfl, a, _, rfl, .inl hS, _, rfl, _, _, rfl, rfl, ⟨by omega, by omega⟩, ?_⟩
        rw [List.length_map]
        have key : EvM.isPage w xs.length = true ↔ 1 ≤ (xs.length : Int) / w ∧ (xs.length : Int) / w ≤ 256 := by
          rw [EvM.isPage_iff h0]
          exact ⟨fun z => z.2, fun z => ⟨by omega, z⟩⟩
        refine ⟨_, rfl, _, _, rfl, rfl, _, rfl, ite2 (fun e3 => ?_) (fun e3 => ?_)⟩
        · have e3 : 1 ≤ (xs.length : Int) / w := of_decide_eq_true e3
          refine ⟨_, rfl, _, _, rfl, rfl, ?_⟩
          have e4 : EvM.isPage w xs.length = decide ((xs.length : Int) / w ≤ 256) := by
            rw [Bool.eq_iff_iff, key, decide_eq_true_eq]
            exact ⟨fun z => z.2, fun z => ⟨e3, z⟩⟩
          rw [e4] at q
          exact q
        · have e3 : ¬ 1 ≤ (xs.length : Int) / w := fun z => e3 (decide_eq_true z)
          have e4 : EvM.isPage w xs.length = false := by
            cases e : EvM.isPage w xs.length with
            | false => rfl
            | true => exact absurd (key.mp e).1 e3
          rw [e4] at q
          exact q
def sp_li_black (K : PySem.W.Frag) : Sp := fun vs H Q _ => ∃ (w : Int) (t : Int) (a_x : Addr) (x : List Int), vs = [.int w, .int t, .ref a_x] ∧ SqL K H a_x (x.map V.int) ∧ x.length ≤ 70000 ∧ PySh55.li_black_asked w t x = true ∧
  ∀ (H' : Hp) (p : Addr), H' p = some (.lst ((PySh55.li_black w t x).map V.int)) → Q (.ref p) H'
theorem sp_li_black_len {K : PySem.W.Frag} {vs : List V} {H : Hp} {Q : VK} {E : XK} (h : sp_li_black K vs H Q E) : vs.length = 3 := by
  obtain ⟨_, _, _, _, rfl, _⟩ := h
  rfl
/-! li_black: slots 0 w, 1 t, 2 x, 3 value -/
theorem ok_li_black {f : Addr} {fd : FuncData} (F : Fun K "li_black" "li_black" s_li_black f fd)
    {t_WHITE : Tok} (c_WHITE : mg "WHITE" = some (.int (255) t_WHITE))
    {t_OUT_OF_RANGE : Tok} (c_OUT_OF_RANGE : mg "OUT_OF_RANGE" = some (.int (-2) t_OUT_OF_RANGE))
    {f_words_of_page : Addr} {fd_words_of_page : FuncData} (G_words_of_page : FnOk P w K mg base CX0 2 f_words_of_page fd_words_of_page ["w", "dots"] (sp_words_of_page K)) (m_words_of_page : mg "words_of_page" = some (.ref f_words_of_page)) (k_words_of_page : PySem.W.keepIn K (.ref f_words_of_page) = true) (b_words_of_page : Binds K fd_words_of_page ["w", "dots"] [])
    {f_is_page : Addr} {fd_is_page : FuncData} (G_is_page : FnOk P w K mg base CX0 1 f_is_page fd_is_page ["w", "x"] (sp_is_page K)) (m_is_page : mg "is_page" = some (.ref f_is_page)) (k_is_page : PySem.W.keepIn K (.ref f_is_page) = true) (b_is_page : Binds K fd_is_page ["w", "x"] []) : FnOk P w K mg base CX0 3 f fd ["w", "t", "x"] (sp_li_black K) := by
  refine F.ok sc_li_black (fun vs H Q E h => ?_) (fun cdv A outer s H vs Q E hr h => ?_)
  · exact sp_li_black_len h
  · refine ⟨_, (pss_cons (ps_if (PW.pt (pw_or (pt_not (pt_val (pe_call G_is_page (hr.mono (by decide)) (by rfl) m_is_page k_is_page b_is_page .nil pass0 (pa_cons (pv 0) (pa_cons (pv 2) pa_nil))))) (pw_or1 (pt_cmpR op_gt (pv 1) (pe_glob (v := .int (255)) (by rfl) c_WHITE ⟨_, rfl⟩) (nomark _))))) (pss_one (ps_ret (pe_lst (pa_cons (pe_glob (v := .int (-2)) (by rfl) c_OUT_OF_RANGE ⟨_, rfl⟩) pa_nil)))) pss_nil)
      (pss_one (ps_ret (pe_op op_cat (pe_lst (pa_cons pe_int pa_nil)) (pe_call G_words_of_page (hr.mono (by decide)) (by rfl) m_words_of_page k_words_of_page b_words_of_page .nil pass0 (pa_cons (pv 0) (pa_cons (pe_lc (own := [("value", 3)]) (g := (gName 3)) (tt := tYes) (by rfl) sc_li_black.nd (pi_list (pv 2)) (blkOk_by (own := [("value", 3)]) (N := ["w", "t", "x", "value"]) (sc := defScope s_li_black) (by decide +kernel)) (fun _ _ _ _ _ => (pg_name (i := 3) sc_li_black.nd rfl (Or.inl rfl))) (fun _ _ _ _ _ => pts_nil) (fun _ _ _ _ _ => (pe_ifExp (pt_cmpR op_le (pv 3) (pv 1) (nomark _)) pe_int pe_int))) pa_nil))))))), ?_⟩
    obtain ⟨w, t, a, x, rfl, hS, hlen, hask, q⟩ := h
    obtain ⟨h0, ht, hb, hrows⟩ := EvM.black_asked hask
    have bad : ¬ (EvM.isPage w x.length = true ∧ t ≤ 255) → ∀ p, H p = none → Q (.ref p) (upd H p (.lst [.int (-2)])) := fun z p hp => q _ p (by
      rw [upd_same, EvM.black_bad z]
      rfl)
    refine ⟨_, rfl, _, rfl, w, a, x, rfl, hS, h0, _, rfl, ite2 (fun e => ?_) (fun e => ?_)⟩
    · have e1 : ¬ EvM.isPage w x.length = true := fun z => by
        rw [z] at e
        cases e
      exact iteT ⟨by decide, bad fun z => e1 z.1⟩
    · have hp : EvM.isPage w x.length = true := by
        cases z : EvM.isPage w x.length with
        | true => rfl
        | false =>
          rw [z] at e
          exact absurd rfl e
      refine ⟨_, rfl, _, _, rfl, rfl, _, rfl, ite2 (fun e2 => ?_) (fun e2 => ?_)⟩
      · have e2 : 255 < t := of_decide_eq_true e2
        exact ⟨by decide, bad fun z => absurd z.2 (by omega)⟩
      · have e2 : ¬ 255 < t := fun z => e2 (decide_eq_true z)
        have hl := hrows hp (by omega)
        have pg := (EvM.isPage_iff h0).mp hp
        have ew : w = (w.toNat : Int) := by omega
        refine ⟨by decide, fun o no => ?_⟩
        have s0 : Same H (upd H o (.lst [.int 0])) := same_upd no
        refine ⟨_, rfl, _, rfl, a, rfl, ⟨_, s0.seq hS⟩, fun D nD => lc_list (K := K) (a := a) (xs := x.map V.int) (fun i H' => H' = upd (upd H o (.lst [.int 0])) D (.lst ((EvM.bits t (x.take i)).map V.int)))
          rfl (fun i H' _ e => e ▸ (same_upd nD).seq (s0.seq hS)) ?_ ?_⟩
        · rintro i y H1 hi rfl
          obtain ⟨z, hz, rfl⟩ := get_int hi
          refine ⟨rfl, _, rfl, _, rfl, _, _, rfl, rfl, _, rfl, ?_⟩
          have fin : ∀ b : Int, b = (if z ≤ t then 1 else 0) → ∃ acc, upd (upd H o (.lst [.int 0])) D (.lst ((EvM.bits t (x.take i)).map V.int)) D = some (.lst acc) ∧ acc.length < sizeLine ∧
              upd (upd (upd H o (.lst [.int 0])) D (.lst ((EvM.bits t (x.take i)).map V.int))) D (.lst (acc ++ [.int b])) = upd (upd H o (.lst [.int 0])) D (.lst ((EvM.bits t (x.take (i + 1))).map V.int)) := fun b hb' => by
            refine ⟨_, upd_same, ?_, ?_⟩
            · unfold EvM.bits
              rw [List.length_map, List.length_map, List.length_take]
              have : (70000 : Nat) < sizeLine := by decide
              omega
            · rw [upd_upd, take_more hz, hb']
              unfold EvM.bits
              rw [List.map_append (f := fun v => if v ≤ t then (1 : Int) else 0), List.map_append (f := V.int)]
              rfl
          refine ite2 (fun e3 => ?_) (fun e3 => ?_)
          · exact fin 1 (by rw [if_pos (of_decide_eq_true e3)])
          · exact fin 0 (by rw [if_neg fun z => e3 (decide_eq_true z)])
        · rintro H1 rfl
          rw [List.length_map, List.take_length]
          refine ⟨w.toNat, D, EvM.bits t x, x.length / w.toNat, by rw [← ew]; rfl, SqL.of upd_same, by omega, by omega, ?_, ?_, fun H2 p s2 np hp2 => ?_⟩
          · have : ((x.length / w.toNat : Nat) : Int) = (x.length : Int) / w := by rw [Int.natCast_ediv, ← ew]
            omega
          · unfold EvM.bits
            rw [List.length_map]
            exact hl
          · have ho : H2 o = some (.lst [.int 0]) := s2 _ _ (by rw [upd_ne (ne_of_none upd_same nD), upd_same])
            refine ⟨o, p, _, _, rfl, rfl, ho, hp2, ?_, fun r nr => q _ r ?_⟩
            · rw [List.length_map, EvM.wordsW_len]
              have hh : x.length / w.toNat ≤ 256 := by
                have : ((x.length / w.toNat : Nat) : Int) = (x.length : Int) / w := by rw [Int.natCast_ediv, ← ew]
                omega
              have h1 : x.length / w.toNat * ((w.toNat + 31) / 32) ≤ 256 * 8 := Nat.mul_le_mul hh (by omega)
              have h2 : (256 * 8 + 8 : Nat) < sizeLine := by decide
              show 1 + _ ≤ _
              omega
            · rw [upd_same, EvM.black_ok ht hb hp (by omega) hl]
              rfl
end
theorem all_mk {P : Program} {w : World} {K : PySem.W.Frag} {h : Heap} {mg : Str → Option Value} {fa : Addr} (X : K.In h) (G : h.Ns mainGlobals mg) (hfa : mg "li_black" = some (.ref fa))
    {f0 : Addr} {od0 an0 : Option Addr} {sl0 : Array (Option Value)} {oc0 kV0 dc0 pm0 cd0 ct0 : Value}
    (a0 : PySem.W.nsIn K mainGlobals "word_of_dots" = some (some (.ref f0))) (l0 : K.lookup f0 = some ⟨oc0, od0, .func (PySem.W.fnOf "word_of_dots" "word_of_dots" (defArgs s_word_of_dots) (defBody s_word_of_dots) (defScope s_word_of_dots) .none kV0 dc0 pm0 an0 cd0 ct0), sl0⟩) (q0 : PySem.W.codeIn K cd0 "word_of_dots" = true) (k0 : PySem.W.keepIn K (.ref f0) = true)
    {f1 : Addr} {od1 an1 : Option Addr} {sl1 : Array (Option Value)} {oc1 kV1 dc1 pm1 cd1 ct1 : Value}
    (a1 : PySem.W.nsIn K mainGlobals "words_of_page" = some (some (.ref f1))) (l1 : K.lookup f1 = some ⟨oc1, od1, .func (PySem.W.fnOf "words_of_page" "words_of_page" (defArgs s_words_of_page) (defBody s_words_of_page) (defScope s_words_of_page) .none kV1 dc1 pm1 an1 cd1 ct1), sl1⟩) (q1 : PySem.W.codeIn K cd1 "words_of_page" = true) (k1 : PySem.W.keepIn K (.ref f1) = true)
    {f2 : Addr} {od2 an2 : Option Addr} {sl2 : Array (Option Value)} {oc2 kV2 dc2 pm2 cd2 ct2 : Value}
    (a2 : PySem.W.nsIn K mainGlobals "is_page" = some (some (.ref f2))) (l2 : K.lookup f2 = some ⟨oc2, od2, .func (PySem.W.fnOf "is_page" "is_page" (defArgs s_is_page) (defBody s_is_page) (defScope s_is_page) .none kV2 dc2 pm2 an2 cd2 ct2), sl2⟩) (q2 : PySem.W.codeIn K cd2 "is_page" = true) (k2 : PySem.W.keepIn K (.ref f2) = true)
    {f3 : Addr} {od3 an3 : Option Addr} {sl3 : Array (Option Value)} {oc3 kV3 dc3 pm3 cd3 ct3 : Value}
    (a3 : PySem.W.nsIn K mainGlobals "li_black" = some (some (.ref f3))) (l3 : K.lookup f3 = some ⟨oc3, od3, .func (PySem.W.fnOf "li_black" "li_black" (defArgs s_li_black) (defBody s_li_black) (defScope s_li_black) .none kV3 dc3 pm3 an3 cd3 ct3), sl3⟩) (q3 : PySem.W.codeIn K cd3 "li_black" = true) (k3 : PySem.W.keepIn K (.ref f3) = true)
    (z_len : PySem.W.nsIn K mainGlobals "len" = some none)
    (z_min : PySem.W.nsIn K mainGlobals "min" = some none)
    (z_range : PySem.W.nsIn K mainGlobals "range" = some none)
    (z_reversed : PySem.W.nsIn K mainGlobals "reversed" = some none)
    {t_MOST_SIDE : Tok} (y_MOST_SIDE : PySem.W.nsIn K mainGlobals "MOST_SIDE" = some (some (.int (256) t_MOST_SIDE)))
    {t_OUT_OF_RANGE : Tok} (y_OUT_OF_RANGE : PySem.W.nsIn K mainGlobals "OUT_OF_RANGE" = some (some (.int (-2) t_OUT_OF_RANGE)))
    {t_WHITE : Tok} (y_WHITE : PySem.W.nsIn K mainGlobals "WHITE" = some (some (.int (255) t_WHITE)))
    {t_WORD_BITS : Tok} (y_WORD_BITS : PySem.W.nsIn K mainGlobals "WORD_BITS" = some (some (.int (32) t_WORD_BITS)))
    : ∃ fd : FuncData, (∀ (s : Shared) (us : List Value), us.length = (["w", "t", "x"] : List Str).length → BindsTo s fd ⟨us, []⟩ ((["w", "t", "x"] : List Str).zip us)) ∧ ∀ base : Heap, K.In base → base.Ns mainGlobals mg → FnOk P w K mg base CX0 3 fa fd ["w", "t", "x"] (sp_li_black K) := by
  have e := hfa.symm.trans (PySem.W.mg_of X G a3)
  cases e
  have F0 := fun_mk (st := s_word_of_dots) l0 q0 k0
  have b0 := F0.binds (ps := ["dots"]) fun _ _ _ _ _ _ us hl => match us, hl with | [_], _ => rfl
  have F1 := fun_mk (st := s_words_of_page) l1 q1 k1
  have b1 := F1.binds (ps := ["w", "dots"]) fun _ _ _ _ _ _ us hl => match us, hl with | [_, _], _ => rfl
  have F2 := fun_mk (st := s_is_page) l2 q2 k2
  have b2 := F2.binds (ps := ["w", "x"]) fun _ _ _ _ _ _ us hl => match us, hl with | [_, _], _ => rfl
  have F3 := fun_mk (st := s_li_black) l3 q3 k3
  have b3 := F3.binds (ps := ["w", "t", "x"]) fun _ _ _ _ _ _ us hl => match us, hl with | [_, _, _], _ => rfl
  refine ⟨PySem.W.fnOf "li_black" "li_black" (defArgs s_li_black) (defBody s_li_black) (defScope s_li_black) .none kV3 dc3 pm3 an3 cd3 ct3, fun s us hu => match us, hu with | [_, _, _], _ => .of_eq rfl, fun base _ _ => ?_⟩
  have O0 : FnOk P w K mg base CX0 1 _ _ ["dots"] (sp_word_of_dots K) := ok_word_of_dots F0 (PySem.W.mg_none_of X G z_reversed)
  have O1 : FnOk P w K mg base CX0 2 _ _ ["w", "dots"] (sp_words_of_page K) := ok_words_of_page F1 (PySem.W.mg_none_of X G z_range) (PySem.W.mg_none_of X G z_len) (PySem.W.mg_none_of X G z_min) (PySem.W.mg_of X G y_WORD_BITS) O0 (PySem.W.mg_of X G a0) k0 b0
  have O2 : FnOk P w K mg base CX0 1 _ _ ["w", "x"] (sp_is_page K) := ok_is_page F2 (PySem.W.mg_none_of X G z_len) (PySem.W.mg_of X G y_MOST_SIDE)
  have O3 : FnOk P w K mg base CX0 3 _ _ ["w", "t", "x"] (sp_li_black K) := ok_li_black F3 (PySem.W.mg_of X G y_WHITE) (PySem.W.mg_of X G y_OUT_OF_RANGE) O1 (PySem.W.mg_of X G a1) k1 b1 O2 (PySem.W.mg_of X G a2) k2 b2
  exact O3
theorem end_li_black {K : PySem.W.Frag} {H : Hp} {w : Int} {t : Int} {a_x : Addr} {x : List Int} (h_x : SqL K H a_x (x.map V.int)) (hwi : (Codec.inInt (0) (4294967295) w && (Codec.inInt (0) (4294967295) t && ((Codec.inLen 0 70000 x && x.all (Codec.inInt (0) (255))) && true))) = true) (hask : PySh55.li_black_asked w t x = true) :
    sp_li_black K [.int w, .int t, .ref a_x] H (fun v H' => Dw K H' v (.list ((PySh55.li_black w t x).map .int))) fun _ _ _ => False := by
  obtain ⟨w_w, hwi⟩ := Bool.and_eq_true_iff.mp hwi
  obtain ⟨w_t, hwi⟩ := Bool.and_eq_true_iff.mp hwi
  obtain ⟨w_x, hwi⟩ := Bool.and_eq_true_iff.mp hwi
  obtain ⟨l_x, _⟩ := Bool.and_eq_true_iff.mp w_x
  exact ⟨w, t, _, x, rfl, h_x, (Codec.inNat_iff.mp l_x).2, hask, fun H' p hp => .lst (L2.SqL.of hp) (L2.dw_ints _)⟩
end Ev
open PySem PySem.W PyProof.Rows
set_option maxRecDepth 100000 in
set_option maxHeartbeats 8000000 in
theorem PySem.Challenge.cw_evenlight_s04_li_black_holds : PySem.Challenge.rw_evenlight_s04_li_black.Holds := by
  w_on; k_headS; (case hw => exact ⟨[.int 0, .int 0, .list []], by decide +kernel, by decide +kernel⟩)
  k_fillS
  refine L2.walk_specK (r := PySem.Challenge.rw_evenlight_s04_li_black) (k := 3) (CX := L2.CX0) (ps := ["w", "t", "x"]) (sp := Ev.sp_li_black) (by decide +kernel) rfl rfl ⟨rfl, by decide, by decide⟩ (fun w h Y => PySem.W.kIn_of Y) ?F ?S (fun _ _ _ _ z => z)
  case F =>
    intro w mg fa h Y KX G hmg
    refine' Ev.all_mk KX G hmg ?a0 ?l0 ?q0 ?k0 ?a1 ?l1 ?q1 ?k1 ?a2 ?l2 ?q2 ?k2 ?a3 ?l3 ?q3 ?k3 ?z_len ?z_min ?z_range ?z_reversed ?y_MOST_SIDE ?y_OUT_OF_RANGE ?y_WHITE ?y_WORD_BITS
    (case a0 => k_is)
    (case l0 => k_is)
    (case q0 => k_is)
    (case k0 => k_is)
    (case a1 => k_is)
    (case l1 => k_is)
    (case q1 => k_is)
    (case k1 => k_is)
    (case a2 => k_is)
    (case l2 => k_is)
    (case q2 => k_is)
    (case k2 => k_is)
    (case a3 => k_is)
    (case l3 => k_is)
    (case q3 => k_is)
    (case k3 => k_is)
    (case z_len => k_is)
    (case z_min => k_is)
    (case z_range => k_is)
    (case z_reversed => k_is)
    (case y_MOST_SIDE => k_is)
    (case y_OUT_OF_RANGE => k_is)
    (case y_WHITE => k_is)
    (case y_WORD_BITS => k_is)
  case S =>
    intro K H xs a hO hwi hask hx
    obtain ⟨a0, a1, a2, u⟩ := a
    cases hx with
    | cons h0 hx =>
    cases hx with
    | cons h1 hx =>
    cases hx with
    | cons h2 hx =>
    cases hx
    cases h0
    cases h1
    cases h2 with
    | lst hs2 ha2 =>
    have e2 := L2.ints_dw a2 _ ha2
    subst e2
    exact Ev.end_li_black hs2 hwi hask
#print axioms PySem.Challenge.cw_evenlight_s04_li_black_holds
