"""What the document says of all calls: what is handed in, what is given back, and that nothing is kept."""

import contextlib
import io
import unittest

from evenlight import light

MOST = 4294967295


class SealedList(list):
    """A list that fails when it is changed, so a change that is taken back is seen too."""

    def refuse(self, *args, **kwargs):
        raise AssertionError("what was handed in was changed")

    append = clear = extend = insert = pop = remove = reverse = sort = refuse
    __setitem__ = __delitem__ = __iadd__ = __imul__ = refuse


COUNTS = [5] + [0] * 100 + [7, 1, 1] + [0] * 151 + [MOST]
PAGE = [(place * 91) % 256 for place in range(33 * 4)]
TABLE = [(value * 7 + 3) % 256 for value in range(256)]

CASES = (
    ("li_counts", (PAGE,)),
    ("li_counts", ([],)),
    ("li_counts", ([3] * 65537,)),
    ("li_best", (COUNTS,)),
    ("li_best", ([0] * 256,)),
    ("li_kth", (50, PAGE)),
    ("li_kth", (0, PAGE)),
    ("li_kth", (1, [2] * 65537)),
    ("li_black", (33, 120, PAGE)),
    ("li_black", (33, 256, PAGE)),
    ("li_black", (257, 0, [0] * 257)),
    ("li_around", (33, 2, 250, PAGE)),
    ("li_around", (33, 64, 256, PAGE)),
    ("li_around", (33, 65, 250, PAGE)),
    ("li_around", (33, 2, 257, PAGE)),
    ("li_sums", (33, PAGE)),
    ("li_sums", (0, [])),
    ("li_median", (33, PAGE)),
    ("li_median", (1, [4] * 257)),
    ("li_darkest", (33, 2, PAGE)),
    ("li_darkest", (33, 0, PAGE)),
    ("li_darkest", (33, 65, PAGE)),
    ("li_lightest", (33, 2, PAGE)),
    ("li_lightest", (33, 0, PAGE)),
    ("li_lightest", (33, 65, PAGE)),
    ("li_behind", (33, 1, PAGE)),
    ("li_behind", (33, 0, PAGE)),
    ("li_behind", (33, 65, PAGE)),
    ("li_even", (PAGE, PAGE[::-1])),
    ("li_even", ([], [])),
    ("li_even", ([3] * 65537, [4] * 65537)),
    ("li_levels", (40, 200, PAGE)),
    ("li_levels", (0, 255, PAGE)),
    ("li_levels", (200, 40, PAGE)),
    ("li_table", (PAGE, TABLE)),
    ("li_table", ([], TABLE)),
    ("li_table", ([3] * 65537, TABLE)),
    ("li_half", (33, PAGE)),
    ("li_half", (1, PAGE)),
    ("li_half", (0, [])),
    ("li_blend", (100, PAGE, PAGE[::-1])),
    ("li_blend", (0, PAGE, PAGE[::-1])),
    ("li_blend", (256, PAGE, PAGE[::-1])),
    ("li_blend", (257, PAGE, PAGE[::-1])),
    ("li_sharper", (33, 64, PAGE)),
    ("li_sharper", (33, 0, PAGE)),
    ("li_sharper", (33, 257, PAGE)),
)


def handed(arguments):
    return [list(value) if isinstance(value, list) else value for value in arguments]


def sealed(arguments):
    return [SealedList(value) if isinstance(value, list) else value for value in arguments]


def answered(name, arguments):
    return getattr(light, name)(*arguments)


class EachCallAloneTest(unittest.TestCase):
    def test_what_is_handed_in_stays_as_it_was(self):
        for name, arguments in CASES:
            given = handed(arguments)
            answered(name, given)
            self.assertEqual(given, handed(arguments), name)

    def test_what_is_handed_in_is_not_changed_for_a_while_either(self):
        for name, arguments in CASES:
            self.assertEqual(answered(name, sealed(arguments)), answered(name, handed(arguments)), name)

    def test_a_second_call_answers_as_the_first(self):
        for name, arguments in CASES:
            first = answered(name, handed(arguments))
            kept = list(first)
            self.assertEqual(answered(name, handed(arguments)), kept, name)
            # Whoever was answered may change the list without changing later answers.
            first.append(77)
            first[0] = 88
            self.assertEqual(answered(name, handed(arguments)), kept, name)

    def test_calls_between_change_nothing(self):
        before = [answered(name, handed(arguments)) for name, arguments in CASES]
        after = [answered(name, handed(arguments)) for name, arguments in reversed(CASES)]
        self.assertEqual(before, after[::-1])

    def test_answers_are_lists_of_whole_numbers(self):
        for name, arguments in CASES:
            answer = answered(name, handed(arguments))
            self.assertIs(type(answer), list, name)
            self.assertEqual({type(number) for number in answer}, {int}, name)
            self.assertTrue(answer in ([-2], [-6]) or min(answer) >= 0, name)
            self.assertTrue(max(answer) <= MOST, name)

    def test_arguments_are_called_as_the_interface_says(self):
        self.assertEqual(light.li_counts(x=[1])[:3], [0, 0, 1])
        self.assertEqual(light.li_best(k=[1, 1] + [0] * 254), [0])
        self.assertEqual(light.li_kth(k=1, x=[4]), [4])
        self.assertEqual(light.li_black(w=1, t=0, x=[0]), [0, 1])
        self.assertEqual(light.li_around(w=2, d=1, part=256, x=[0, 1]), [0, 1])
        self.assertEqual(light.li_sums(w=1, x=[4]), [0, 0, 0, 0, 4])
        self.assertEqual(light.li_median(w=1, x=[4]), [0, 4])
        self.assertEqual(light.li_darkest(w=2, d=1, x=[4, 3]), [0, 3, 3])
        self.assertEqual(light.li_lightest(w=2, d=1, x=[4, 3]), [0, 4, 4])
        self.assertEqual(light.li_behind(w=2, d=1, x=[4, 3]), [0, 4, 4])
        self.assertEqual(light.li_even(x=[1], b=[2]), [0, 128])
        self.assertEqual(light.li_levels(lo=1, hi=3, x=[2]), [0, 128])
        self.assertEqual(light.li_table(x=[1], t=[5, 6] + [7] * 254), [0, 6])
        self.assertEqual(light.li_half(w=2, x=[1, 2, 3, 4]), [0, 3])
        self.assertEqual(light.li_blend(k=64, x=[0], y=[100]), [0, 25])
        self.assertEqual(light.li_sharper(w=2, k=64, x=[10, 12]), [0, 8, 14])

    def test_nothing_is_printed(self):
        told = io.StringIO()
        with contextlib.redirect_stdout(told), contextlib.redirect_stderr(told):
            for name, arguments in CASES:
                answered(name, handed(arguments))
        self.assertEqual(told.getvalue(), "")


if __name__ == "__main__":
    unittest.main()
