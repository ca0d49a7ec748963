import PyProof.Rows.All
import Wide.All
import OpenK.AllK
import Wide.FinOn
import Open.SpecLaws
import KE.OsGo
import HandS.ForSpec
import HandS.ForMost
import HandS.Walk
import HandS.Wide
import HandS.SortInts
import PySem.Challenge.RW_evenlight_s03_li_kth
set_option Elab.async false
set_option maxRecDepth 100000
set_option maxHeartbeats 4000000
namespace EvM
/-! numbers and lists alone -/
theorem natural_iff {z : Int} {b : Nat} : Sh55Neutral.natural z b = true ↔ 0 ≤ z ∧ z < 2 ^ b := by
  unfold Sh55Neutral.natural
  rw [Bool.and_eq_true, decide_eq_true_eq, decide_eq_true_eq]
def Nn (l : List Int) : Prop := ∀ z ∈ l, 0 ≤ z
def By (l : List Int) : Prop := ∀ z ∈ l, 0 ≤ z ∧ z < 256
theorem By.nn {l : List Int} (h : By l) : Nn l := fun z hz => (h z hz).1
theorem by_of {l : List Int} (h : l.all (fun (z : Int) => Sh55Neutral.natural z 8) = true) : By l := fun z hz => by
  have := natural_iff.mp (List.all_eq_true.mp h z hz)
  exact ⟨this.1, by have h2 := this.2; simpa using h2⟩
def Wd (l : List Int) : Prop := ∀ z ∈ l, 0 ≤ z ∧ z < 65536
theorem Wd.nn {l : List Int} (h : Wd l) : Nn l := fun z hz => (h z hz).1
theorem wd_of {l : List Int} (h : l.all (fun (z : Int) => Sh55Neutral.natural z 16) = true) : Wd l := fun z hz => by
  have := natural_iff.mp (List.all_eq_true.mp h z hz)
  exact ⟨this.1, by have h2 := this.2; simpa using h2⟩
theorem nats_len (l : List Int) : (Sh55Neutral.nats l).length = l.length := by
  unfold Sh55Neutral.nats; rw [List.length_map]
theorem ints_len (l : List Nat) : (Sh55Neutral.ints l).length = l.length := by
  unfold Sh55Neutral.ints; rw [List.length_map]
theorem ints_nats {l : List Int} (h : Nn l) : Sh55Neutral.ints (Sh55Neutral.nats l) = l := by
  unfold Sh55Neutral.ints Sh55Neutral.nats
  rw [List.map_map]
  conv => rhs; rw [← List.map_id l]
  refine List.map_congr_left fun z hz => ?_
  exact Int.toNat_of_nonneg (h z hz)
theorem nats_ints (l : List Nat) : Sh55Neutral.nats (Sh55Neutral.ints l) = l := by
  unfold Sh55Neutral.ints Sh55Neutral.nats
  rw [List.map_map]
  conv => rhs; rw [← List.map_id l]
  rfl
/-- what a list of numbers that are not negative is -/
theorem Nn.eq {l : List Int} (h : Nn l) : ∃ m : List Nat, l = Sh55Neutral.ints m := ⟨_, (ints_nats h).symm⟩
theorem ints_get (l : List Nat) (i : Nat) : (Sh55Neutral.ints l)[i]? = (l[i]?).map fun (n : Nat) => (n : Int) := by
  unfold Sh55Neutral.ints; rw [List.getElem?_map]
theorem num_eq (l : List Nat) (i : Nat) : Sh55.num l i = (l[i]?).getD 0 := by
  unfold Sh55.num; rw [List.getD_eq_getElem?_getD]
end EvM
namespace EvM
/-! the k-th -/
theorem same_sorted {a b : List Int} (hp : a.Perm b) (ha : a.Pairwise (· ≤ ·)) (hb : b.Pairwise (· ≤ ·)) : a = b :=
  hp.eq_of_pairwise (fun _ _ _ _ h1 h2 => Int.le_antisymm h1 h2) ha hb
theorem ints_sort {l s : List Int} (h : Nn l) (p : s.Perm l) (o : s.Pairwise (· ≤ ·)) : s = Sh55Neutral.ints ((Sh55Neutral.nats l).mergeSort fun a b => decide (a ≤ b)) := by
  obtain ⟨m, rfl⟩ := h.eq
  rw [nats_ints]
  refine same_sorted (p.trans ((List.mergeSort_perm m _).symm.map _)) o ?_
  have q : (m.mergeSort fun a b => decide (a ≤ b)).Pairwise fun a b => decide (a ≤ b) = true :=
    List.pairwise_mergeSort (le := fun a b => decide (a ≤ b)) (fun a b c h1 h2 => by simp at *; omega) (fun a b => by simp; omega) m
  unfold Sh55Neutral.ints
  rw [List.pairwise_map]
  exact q.imp fun h => by have := of_decide_eq_true h; omega
theorem kth_asked {k : Int} {l : List Int} (h : PySh55.li_kth_asked k l = true) : 0 ≤ k ∧ By l := by
  have h : (Sh55Neutral.asked1 [[2, k], l] && _) = true := h
  rw [Bool.and_eq_true] at h
  have h1 : (Sh55Neutral.natural k 32 && (l.all (fun (z : Int) => Sh55Neutral.natural z 8) && _)) = true := h.1
  rw [Bool.and_eq_true, Bool.and_eq_true] at h1
  exact ⟨(natural_iff.mp h1.1).1, by_of h1.2.1⟩
theorem kth_big {k : Int} {l : List Int} (h : ¬ l.length ≤ 65536) : PySh55.li_kth k l = [-2] := by
  show Sh55Neutral.f [[2, k], l] = _
  unfold Sh55Neutral.f Sh55Neutral.callOf
  have hf : Sh55.few (Sh55Neutral.nats l).length = false := decide_eq_false (by rw [nats_len]; exact h)
  simp only [hf]
  rfl
theorem kth_none {k : Int} {l : List Int} (h : l.length ≤ 65536) (hn : k = 0 ∨ (l.length : Int) < k) : PySh55.li_kth k l = [-6] := by
  show Sh55Neutral.f [[2, k], l] = _
  unfold Sh55Neutral.f Sh55Neutral.callOf
  have hf : Sh55.few (Sh55Neutral.nats l).length = true := decide_eq_true (by rw [nats_len]; exact h)
  simp only [hf, if_true, Sh55.answer]
  rw [if_pos (by rw [nats_len]; omega)]
  rfl
theorem kth_some {k : Int} {l s : List Int} {z : Int} (h : l.length ≤ 65536) (hb : By l) (h1 : 0 < k) (h2 : k ≤ (l.length : Int)) (p : s.Perm l) (o : s.Pairwise (· ≤ ·)) (hz : s[(k - 1).toNat]? = some z) : PySh55.li_kth k l = [z] := by
  show Sh55Neutral.f [[2, k], l] = _
  unfold Sh55Neutral.f Sh55Neutral.callOf
  have hf : Sh55.few (Sh55Neutral.nats l).length = true := decide_eq_true (by rw [nats_len]; exact h)
  simp only [hf, if_true, Sh55.answer]
  rw [if_neg (by rw [nats_len]; omega)]
  show [((Sh55.kth k.toNat (Sh55Neutral.nats l) : Nat) : Int)] = [z]
  unfold Sh55.kth
  rw [ints_sort hb.nn p o, ints_get] at hz
  rw [num_eq, show k.toNat - 1 = (k - 1).toNat by omega]
  cases e : (List.mergeSort (Sh55Neutral.nats l) fun a b => decide (a ≤ b))[(k - 1).toNat]? with
  | none => rw [e] at hz; cases hz
  | some n =>
    rw [e] at hz
    rw [← Option.some.inj hz]
    rfl
end EvM
namespace Ev
open PySem PySem.Spec PyProof.Rows L2
/-! small words over the hand layer -/
theorem same_upd {H : Hp} {p : Addr} {o : HO} (h : H p = none) : Same H (upd H p o) := fun b x e => by
  rw [upd_ne (ne_of_none e h)]
  exact e
/-- xs[j] by values, for xs[j] += e -/
def rGetL (K : PySem.W.Frag) : V → V → Hp → VK → Prop := fun x y H Q => ∃ (p : Addr) (xs : List V) (j : Nat) (v : V), x = .ref p ∧ y = .int j ∧ SqL K H p xs ∧ xs[j]? = some v ∧ Q v H
theorem get_list {X : Cx} : PGet X (rGetL X.K) := by
  intro pins s σ H x y v u Q I rx ry h
  obtain ⟨p, xs, j, z, rfl, rfl, hq, he, q⟩ := h
  cases rx
  obtain ⟨t, rfl⟩ := ry
  obtain ⟨its, r, pl, hz⟩ := I.list hq
  obtain ⟨w, ew, rw'⟩ := r.get he
  have hj : j < xs.length := (List.getElem?_eq_some_iff.mp he).1
  have hl := r.length
  have hn := line63
  exact wpAny_getItem_list pl.isList (by omega) (by omega) (by rw [Int.toNat_natCast]; simpa using ew) ⟨z, H, I, rw', q⟩
theorem ixN_nat {n j : Nat} (h : j < n) : ixN n (j : Int) = some j := by
  unfold ixN
  rw [if_pos (by omega), if_pos (by omega), Int.toNat_natCast]
theorem map_set {α β : Type} (f : α → β) (l : List α) (i : Nat) (a : α) : (l.map f).set i (f a) = (l.set i a).map f := by
  rw [List.map_set]
theorem get_int {l : List Int} {i : Nat} {y : V} (h : (l.map V.int)[i]? = some y) : ∃ z, l[i]? = some z ∧ y = V.int z := by
  rw [List.getElem?_map] at h
  cases e : l[i]? with
  | none => rw [e] at h; cases h
  | some z => rw [e] at h; exact ⟨z, rfl, (Option.some.inj h).symm⟩
theorem int_get {l : List Int} {i : Nat} {z : Int} (h : l[i]? = some z) : (l.map V.int)[i]? = some (V.int z) := by
  rw [List.getElem?_map, h]
  rfl
theorem take_more {α : Type} {l : List α} {i : Nat} {x : α} (h : l[i]? = some x) : l.take (i + 1) = l.take i ++ [x] := by
  rw [List.take_add_one, h]
  rfl
end Ev
namespace Ev
open PySem PySem.Spec PyProof.Rows L2
theorem cut_nat (l : List Int) (i j : Nat) : cutV (l.map V.int) (some (i : Int)) (some (j : Int)) = ((l.drop i).take (j - i)).map V.int := by
  unfold cutV
  rw [HT.sIx_nat, HT.sIx_nat, List.length_map, ← List.map_drop, ← List.map_take]
  congr 1
  by_cases h : i ≤ l.length
  · rw [Nat.min_eq_left h]
    by_cases h2 : j ≤ l.length
    · rw [Nat.min_eq_left h2]
    · rw [Nat.min_eq_right (by omega), List.take_of_length_le (by rw [List.length_drop]; omega), List.take_of_length_le (by rw [List.length_drop]; omega)]
  · rw [List.drop_eq_nil_of_le (by omega), List.drop_eq_nil_of_le (by omega), List.take_nil, List.take_nil]
theorem rgC_up {i j c : Int} {n : Nat} (hc : 0 < c) (hc2 : c < 1073741824) (hi : 0 ≤ i) (hi2 : i < 2 ^ 60) (hj : 0 ≤ j) (hj2 : j < 2 ^ 60) (hn : (n : Int) = if i < j then (j - i - 1) / c + 1 else 0) : RgC i j c n := by
  have hs : Builtin.Range.rangeSize i j c = n := by
    unfold Builtin.Range.rangeSize
    rw [if_pos hc, hn]
  have hn2 : (n : Int) < 2 ^ 62 := by
    rw [hn]
    split
    · have h1 : (j - i - 1) / c ≤ j - i - 1 := Int.ediv_le_self _ (by omega)
      omega
    · decide
  refine ⟨by omega, by omega, ?_, hs⟩
  unfold Builtin.Range.small
  rw [hs]
  unfold Builtin.Range.rangeFitsLong
  simp only [Bool.and_eq_true, Bool.or_eq_true, decide_eq_true_eq]
  rw [if_pos hc]
  simp only [Bool.and_eq_true, decide_eq_true_eq]
  omega
end Ev
namespace Ev
open PySem PySem.Spec PyProof.Rows L2
open PySem.W (Codec)
def top (i : Nat) : Stmt := PySem.Challenge.pw_evenlight_s03_li_kth.main.body.getD i (.Pass ⟨0, 0, 0, 0⟩)
abbrev s_li_kth : Stmt := top 4
theorem sc_li_kth : FnScope ["k", "x"] ["k", "x"] (defScope s_li_kth) := ⟨rfl, rfl, rfl, by decide +kernel, rfl, by decide +kernel, by decide +kernel⟩
section
variable {P : Program} {w : World} {K : PySem.W.Frag} {mg : Str → Option Value} {base : Heap}
def sp_li_kth (K : PySem.W.Frag) : Sp := fun vs H Q _ => ∃ (k : Int) (a_x : Addr) (x : List Int), vs = [.int k, .ref a_x] ∧ SqL K H a_x (x.map V.int) ∧ x.length ≤ 70000 ∧ PySh55.li_kth_asked k x = true ∧
  ∀ (H' : Hp) (p : Addr), H' p = some (.lst ((PySh55.li_kth k x).map V.int)) → Q (.ref p) H'
theorem sp_li_kth_len {K : PySem.W.Frag} {vs : List V} {H : Hp} {Q : VK} {E : XK} (h : sp_li_kth K vs H Q E) : vs.length = 2 := by
  obtain ⟨_, _, _, rfl, _⟩ := h
  rfl
/-! li_kth: slots 0 k, 1 x -/
theorem ok_li_kth {f : Addr} {fd : FuncData} (F : Fun K "li_kth" "li_kth" s_li_kth f fd)
    (g_sorted : mg "sorted" = none)
    (g_len : mg "len" = none)
    {t_NONE_SUCH : Tok} (c_NONE_SUCH : mg "NONE_SUCH" = some (.int (-6) t_NONE_SUCH))
    {t_MOST_BYTES : Tok} (c_MOST_BYTES : mg "MOST_BYTES" = some (.int (65536) t_MOST_BYTES))
    {t_OUT_OF_RANGE : Tok} (c_OUT_OF_RANGE : mg "OUT_OF_RANGE" = some (.int (-2) t_OUT_OF_RANGE)) : FnOk P w K mg base CX0 1 f fd ["k", "x"] (sp_li_kth K) := by
  refine F.ok sc_li_kth (fun vs H Q E h => ?_) (fun cdv A outer s H vs Q E hr h => ?_)
  · exact sp_li_kth_len h
  · refine ⟨_, (pss_cons (ps_if (pt_cmpR op_gt (pe_callB call_len_seq (by rfl) g_len PySem.boot_len (pa_cons (pv 1) pa_nil)) (pe_glob (v := .int (65536)) (by rfl) c_MOST_BYTES ⟨_, rfl⟩) (nomark _)) (pss_one (ps_ret (pe_lst (pa_cons (pe_glob (v := .int (-2)) (by rfl) c_OUT_OF_RANGE ⟨_, rfl⟩) pa_nil)))) pss_nil)
      (pss_cons (ps_if (PW.pt (pw_or (pt_cmpR op_eq (pv 0) pe_int (nomark _)) (pw_or1 (pt_cmpR op_gt (pv 0) (pe_callB call_len_seq (by rfl) g_len PySem.boot_len (pa_cons (pv 1) pa_nil)) (nomark _))))) (pss_one (ps_ret (pe_lst (pa_cons (pe_glob (v := .int (-6)) (by rfl) c_NONE_SUCH ⟨_, rfl⟩) pa_nil)))) pss_nil)
      (pss_one (ps_ret (pe_lst (pa_cons (pe_ix ix_list (pe_callB cr_sortedI (by rfl) g_sorted (by decide +kernel) (pa_cons (pv 1) pa_nil)) (pe_op op_sub (pv 0) pe_int) (fun _ _ => rfl)) pa_nil)))))), ?_⟩
    obtain ⟨k, a, x, rfl, hS, hlen, hask, q⟩ := h
    obtain ⟨hk, hb⟩ := EvM.kth_asked hask
    refine ⟨_, rfl, a, _, rfl, .inl hS, _, _, rfl, rfl, _, rfl, ite2 (fun e => ?_) (fun e => ?_)⟩
    · have e := of_decide_eq_true e
      rw [List.length_map] at e
      refine ⟨by decide, fun p hp => q _ p ?_⟩
      rw [upd_same, EvM.kth_big (by omega)]
      rfl
    · have e : ¬ (65536 : Int) < ((x.map V.int).length : Int) := fun z => e (decide_eq_true z)
      rw [List.length_map] at e
      have none_way : (k = 0 ∨ (x.length : Int) < k) → ∀ p, H p = none → Q (.ref p) (upd H p (.lst [.int (-6)])) := fun z p hp => q _ p (by
        rw [upd_same, EvM.kth_none (by omega) z]
        rfl)
      refine ⟨_, rfl, rfl, _, rfl, ite2 (fun e1 => ?_) (fun e1 => ?_)⟩
      · have e1 : k = 0 := V.int.inj (of_decide_eq_true e1)
        exact ⟨by decide, none_way (.inl e1)⟩
      · have e1 : ¬ k = 0 := fun z => e1 (decide_eq_true (congrArg V.int z))
        refine ⟨_, rfl, _, rfl, a, _, rfl, .inl hS, _, _, rfl, rfl, _, rfl, ite2 (fun e2 => ?_) (fun e2 => ?_)⟩
        · have e2 := of_decide_eq_true e2
          rw [List.length_map] at e2
          exact ⟨by decide, none_way (.inr e2)⟩
        · have e2 : ¬ ((x.map V.int).length : Int) < k := fun z => e2 (decide_eq_true z)
          rw [List.length_map] at e2
          refine ⟨_, rfl, a, x, rfl, hS, fun s p pm so hp => ?_⟩
          have hs : (k - 1).toNat < s.length := by
            rw [pm.length_eq]
            omega
          have g : s[(k - 1).toNat]? = some s[(k - 1).toNat] := List.getElem?_eq_getElem hs
          refine ⟨_, rfl, _, _, rfl, rfl, p, _, _, _, rfl, rfl, SqL.of upd_same, at_of (by omega) (int_get g), (by show 1 ≤ sizeLine; decide), fun r hr2 => q _ r ?_⟩
          rw [upd_same, EvM.kth_some (by omega) hb (by omega) (by omega) pm so g]
          rfl
end
theorem all_mk {P : Program} {w : World} {K : PySem.W.Frag} {h : Heap} {mg : Str → Option Value} {fa : Addr} (X : K.In h) (G : h.Ns mainGlobals mg) (hfa : mg "li_kth" = some (.ref fa))
    {f0 : Addr} {od0 an0 : Option Addr} {sl0 : Array (Option Value)} {oc0 kV0 dc0 pm0 cd0 ct0 : Value}
    (a0 : PySem.W.nsIn K mainGlobals "li_kth" = some (some (.ref f0))) (l0 : K.lookup f0 = some ⟨oc0, od0, .func (PySem.W.fnOf "li_kth" "li_kth" (defArgs s_li_kth) (defBody s_li_kth) (defScope s_li_kth) .none kV0 dc0 pm0 an0 cd0 ct0), sl0⟩) (q0 : PySem.W.codeIn K cd0 "li_kth" = true) (k0 : PySem.W.keepIn K (.ref f0) = true)
    (z_len : PySem.W.nsIn K mainGlobals "len" = some none)
    (z_sorted : PySem.W.nsIn K mainGlobals "sorted" = some none)
    {t_MOST_BYTES : Tok} (y_MOST_BYTES : PySem.W.nsIn K mainGlobals "MOST_BYTES" = some (some (.int (65536) t_MOST_BYTES)))
    {t_NONE_SUCH : Tok} (y_NONE_SUCH : PySem.W.nsIn K mainGlobals "NONE_SUCH" = some (some (.int (-6) t_NONE_SUCH)))
    {t_OUT_OF_RANGE : Tok} (y_OUT_OF_RANGE : PySem.W.nsIn K mainGlobals "OUT_OF_RANGE" = some (some (.int (-2) t_OUT_OF_RANGE)))
    : ∃ fd : FuncData, (∀ (s : Shared) (us : List Value), us.length = (["k", "x"] : List Str).length → BindsTo s fd ⟨us, []⟩ ((["k", "x"] : List Str).zip us)) ∧ ∀ base : Heap, K.In base → base.Ns mainGlobals mg → FnOk P w K mg base CX0 1 fa fd ["k", "x"] (sp_li_kth K) := by
  have e := hfa.symm.trans (PySem.W.mg_of X G a0)
  cases e
  have F0 := fun_mk (st := s_li_kth) l0 q0 k0
  have b0 := F0.binds (ps := ["k", "x"]) fun _ _ _ _ _ _ us hl => match us, hl with | [_, _], _ => rfl
  refine ⟨PySem.W.fnOf "li_kth" "li_kth" (defArgs s_li_kth) (defBody s_li_kth) (defScope s_li_kth) .none kV0 dc0 pm0 an0 cd0 ct0, fun s us hu => match us, hu with | [_, _], _ => .of_eq rfl, fun base _ _ => ?_⟩
  have O0 : FnOk P w K mg base CX0 1 _ _ ["k", "x"] (sp_li_kth K) := ok_li_kth F0 (PySem.W.mg_none_of X G z_sorted) (PySem.W.mg_none_of X G z_len) (PySem.W.mg_of X G y_NONE_SUCH) (PySem.W.mg_of X G y_MOST_BYTES) (PySem.W.mg_of X G y_OUT_OF_RANGE)
  exact O0
theorem end_li_kth {K : PySem.W.Frag} {H : Hp} {k : Int} {a_x : Addr} {x : List Int} (h_x : SqL K H a_x (x.map V.int)) (hwi : (Codec.inInt (0) (4294967295) k && ((Codec.inLen 0 70000 x && x.all (Codec.inInt (0) (255))) && true)) = true) (hask : PySh55.li_kth_asked k x = true) :
    sp_li_kth K [.int k, .ref a_x] H (fun v H' => Dw K H' v (.list ((PySh55.li_kth k x).map .int))) fun _ _ _ => False := by
  obtain ⟨w_k, hwi⟩ := Bool.and_eq_true_iff.mp hwi
  obtain ⟨w_x, hwi⟩ := Bool.and_eq_true_iff.mp hwi
  obtain ⟨l_x, _⟩ := Bool.and_eq_true_iff.mp w_x
  exact ⟨k, _, x, rfl, h_x, (Codec.inNat_iff.mp l_x).2, hask, fun H' p hp => .lst (L2.SqL.of hp) (L2.dw_ints _)⟩
end Ev
open PySem PySem.W PyProof.Rows
set_option maxRecDepth 100000 in
set_option maxHeartbeats 8000000 in
theorem PySem.Challenge.cw_evenlight_s03_li_kth_holds : PySem.Challenge.rw_evenlight_s03_li_kth.Holds := by
  w_on; k_headS; (case hw => exact ⟨[.int 0, .list []], by decide +kernel, by decide +kernel⟩)
  k_fillS
  refine L2.walk_specK (r := PySem.Challenge.rw_evenlight_s03_li_kth) (k := 1) (CX := L2.CX0) (ps := ["k", "x"]) (sp := Ev.sp_li_kth) (by decide +kernel) rfl rfl ⟨rfl, by decide, by decide⟩ (fun w h Y => PySem.W.kIn_of Y) ?F ?S (fun _ _ _ _ z => z)
  case F =>
    intro w mg fa h Y KX G hmg
    refine' Ev.all_mk KX G hmg ?a0 ?l0 ?q0 ?k0 ?z_len ?z_sorted ?y_MOST_BYTES ?y_NONE_SUCH ?y_OUT_OF_RANGE
    (case a0 => k_is)
    (case l0 => k_is)
    (case q0 => k_is)
    (case k0 => k_is)
    (case z_len => k_is)
    (case z_sorted => k_is)
    (case y_MOST_BYTES => k_is)
    (case y_NONE_SUCH => k_is)
    (case y_OUT_OF_RANGE => k_is)
  case S =>
    intro K H xs a hO hwi hask hx
    obtain ⟨a0, a1, u⟩ := a
    cases hx with
    | cons h0 hx =>
    cases hx with
    | cons h1 hx =>
    cases hx
    cases h0
    cases h1 with
    | lst hs1 ha1 =>
    have e1 := L2.ints_dw a1 _ ha1
    subst e1
    exact Ev.end_li_kth hs1 hwi hask
#print axioms PySem.Challenge.cw_evenlight_s03_li_kth_holds
