"""What the document says of all calls: what is handed in, what is given back, and that nothing is kept."""

import contextlib
import copy
import importlib.util
import inspect
import io
import pathlib
import subprocess
import sys
import unittest

from evenlight import light

TOP = pathlib.Path(__file__).resolve().parent.parent
MOST = 4294967295


class SealedList(list):
    """A list that fails when it is changed, so a change that is taken back is seen too."""

    def refuse(self, *args, **kwargs):
        raise AssertionError("what was handed in was changed")

    append = clear = extend = insert = pop = remove = reverse = sort = refuse
    __setitem__ = __delitem__ = __iadd__ = __imul__ = refuse


COUNTS = [5] + [0] * 100 + [7, 1, 1] + [0] * 151 + [MOST]
PAGE = [(place * 91) % 256 for place in range(33 * 4)]
TABLE = [(value * 7 + 3) % 256 for value in range(256)]
WORDS = [0, 1, 127, 128, 255, 256, 32767, 32768, 65407, 65408, 65535]

CASES = (
    ("li_counts", (PAGE,)),
    ("li_counts", ([],)),
    ("li_counts", ([3] * 65537,)),
    ("li_best", (COUNTS,)),
    ("li_best", ([0] * 256,)),
    ("li_kth", (50, PAGE)),
    ("li_kth", (0, PAGE)),
    ("li_kth", (1, [2] * 65537)),
    ("li_black", (33, 120, PAGE)),
    ("li_black", (33, 256, PAGE)),
    ("li_black", (257, 0, [0] * 257)),
    ("li_around", (33, 2, 250, PAGE)),
    ("li_around", (33, 64, 256, PAGE)),
    ("li_around", (33, 65, 250, PAGE)),
    ("li_around", (33, 2, 257, PAGE)),
    ("li_sums", (33, PAGE)),
    ("li_sums", (0, [])),
    ("li_median", (33, PAGE)),
    ("li_median", (1, [4] * 257)),
    ("li_darkest", (33, 2, PAGE)),
    ("li_darkest", (33, 0, PAGE)),
    ("li_darkest", (33, 65, PAGE)),
    ("li_lightest", (33, 2, PAGE)),
    ("li_lightest", (33, 0, PAGE)),
    ("li_lightest", (33, 65, PAGE)),
    ("li_behind", (33, 1, PAGE)),
    ("li_behind", (33, 0, PAGE)),
    ("li_behind", (33, 65, PAGE)),
    ("li_even", (PAGE, PAGE[::-1])),
    ("li_even", ([], [])),
    ("li_even", ([3] * 65537, [4] * 65537)),
    ("li_levels", (40, 200, PAGE)),
    ("li_levels", (0, 255, PAGE)),
    ("li_levels", (200, 40, PAGE)),
    ("li_table", (PAGE, TABLE)),
    ("li_table", ([], TABLE)),
    ("li_table", ([3] * 65537, TABLE)),
    ("li_half", (33, PAGE)),
    ("li_half", (1, PAGE)),
    ("li_half", (0, [])),
    ("li_blend", (100, PAGE, PAGE[::-1])),
    ("li_blend", (0, PAGE, PAGE[::-1])),
    ("li_blend", (256, PAGE, PAGE[::-1])),
    ("li_blend", (257, PAGE, PAGE[::-1])),
    ("li_sharper", (33, 64, PAGE)),
    ("li_sharper", (33, 0, PAGE)),
    ("li_sharper", (33, 257, PAGE)),
    ("li_narrow", (0, WORDS)),
    ("li_narrow", (1, WORDS)),
    ("li_narrow", (2, WORDS)),
    ("li_narrow", (2, [])),
    ("li_narrow", (3, WORDS)),
    ("li_apart", (PAGE, PAGE[::-1])),
    ("li_apart", ([], [])),
    ("li_apart", ([3] * 65537, [4] * 65537)),
    ("li_even1", (100, 200)),
    ("li_even1", (MOST, 256)),
)

# Every call of the interface, with its arguments in their order.
INTERFACE = {
    "li_counts": ["x"],
    "li_best": ["k"],
    "li_kth": ["k", "x"],
    "li_black": ["w", "t", "x"],
    "li_around": ["w", "d", "part", "x"],
    "li_sums": ["w", "x"],
    "li_median": ["w", "x"],
    "li_darkest": ["w", "d", "x"],
    "li_lightest": ["w", "d", "x"],
    "li_behind": ["w", "d", "x"],
    "li_even": ["x", "b"],
    "li_levels": ["lo", "hi", "x"],
    "li_table": ["x", "t"],
    "li_half": ["w", "x"],
    "li_blend": ["k", "x", "y"],
    "li_sharper": ["w", "k", "x"],
    "li_narrow": ["mode", "x"],
    "li_apart": ["x", "y"],
    "li_even1": ["a", "b"],
}

# These have no number that could be out of its range.
NEVER_REFUSED_BY_RANGE = ("li_best", "li_even1")
ONE_NUMBER_ALONE = ("li_best", "li_kth", "li_apart", "li_even1")


def handed(arguments):
    return [list(value) if isinstance(value, list) else value for value in arguments]


def sealed(arguments):
    return [SealedList(value) if isinstance(value, list) else value for value in arguments]


def answered(name, arguments):
    return getattr(light, name)(*arguments)


class EachCallAloneTest(unittest.TestCase):
    def test_what_is_handed_in_stays_as_it_was(self):
        for name, arguments in CASES:
            given = handed(arguments)
            answered(name, given)
            self.assertEqual(given, handed(arguments), name)

    def test_what_is_handed_in_is_not_changed_for_a_while_either(self):
        for name, arguments in CASES:
            self.assertEqual(answered(name, sealed(arguments)), answered(name, handed(arguments)), name)

    def test_a_second_call_answers_as_the_first(self):
        for name, arguments in CASES:
            first = answered(name, handed(arguments))
            kept = list(first)
            self.assertEqual(answered(name, handed(arguments)), kept, name)
            # Whoever was answered may change the list without changing later answers.
            first.append(77)
            first[0] = 88
            self.assertEqual(answered(name, handed(arguments)), kept, name)

    def test_calls_between_change_nothing(self):
        before = [answered(name, handed(arguments)) for name, arguments in CASES]
        after = [answered(name, handed(arguments)) for name, arguments in reversed(CASES)]
        self.assertEqual(before, after[::-1])

    def test_answers_are_lists_of_whole_numbers(self):
        for name, arguments in CASES:
            answer = answered(name, handed(arguments))
            self.assertIs(type(answer), list, name)
            self.assertEqual({type(number) for number in answer}, {int}, name)
            self.assertTrue(answer in ([-2], [-6]) or min(answer) >= 0, name)
            self.assertTrue(max(answer) <= MOST, name)

    def test_arguments_are_called_as_the_interface_says(self):
        self.assertEqual(light.li_counts(x=[1])[:3], [0, 0, 1])
        self.assertEqual(light.li_best(k=[1, 1] + [0] * 254), [0])
        self.assertEqual(light.li_kth(k=1, x=[4]), [4])
        self.assertEqual(light.li_black(w=1, t=0, x=[0]), [0, 1])
        self.assertEqual(light.li_around(w=2, d=1, part=256, x=[0, 1]), [0, 1])
        self.assertEqual(light.li_sums(w=1, x=[4]), [0, 0, 0, 0, 4])
        self.assertEqual(light.li_median(w=1, x=[4]), [0, 4])
        self.assertEqual(light.li_darkest(w=2, d=1, x=[4, 3]), [0, 3, 3])
        self.assertEqual(light.li_lightest(w=2, d=1, x=[4, 3]), [0, 4, 4])
        self.assertEqual(light.li_behind(w=2, d=1, x=[4, 3]), [0, 4, 4])
        self.assertEqual(light.li_even(x=[1], b=[2]), [0, 128])
        self.assertEqual(light.li_levels(lo=1, hi=3, x=[2]), [0, 128])
        self.assertEqual(light.li_table(x=[1], t=[5, 6] + [7] * 254), [0, 6])
        self.assertEqual(light.li_half(w=2, x=[1, 2, 3, 4]), [0, 3])
        self.assertEqual(light.li_blend(k=64, x=[0], y=[100]), [0, 25])
        self.assertEqual(light.li_sharper(w=2, k=64, x=[10, 12]), [0, 8, 14])
        self.assertEqual(light.li_narrow(mode=1, x=[300]), [0, 255])
        self.assertEqual(light.li_apart(x=[4], y=[9]), [5])
        self.assertEqual(light.li_even1(a=1, b=2), [128])


class InterfaceTest(unittest.TestCase):
    def test_every_call_is_there_and_no_other(self):
        self.assertEqual(sorted(name for name in vars(light) if name.startswith("li_")), sorted(INTERFACE))

    def test_every_argument_is_there_in_its_order(self):
        for name, arguments in INTERFACE.items():
            parameters = inspect.signature(getattr(light, name)).parameters.values()
            self.assertEqual([parameter.name for parameter in parameters], arguments, name)
            for parameter in parameters:
                self.assertIs(parameter.kind, inspect.Parameter.POSITIONAL_OR_KEYWORD, name)
                # A default list would be kept from one call to the next.
                self.assertIs(parameter.default, inspect.Parameter.empty, name)

    def test_every_call_is_answered_and_refused_by_the_cases(self):
        for name in INTERFACE:
            answers = [answered(name, handed(arguments)) for called, arguments in CASES if called == name]
            self.assertTrue([answer for answer in answers if answer[0] >= 0], name)
            self.assertEqual([-2] in answers, name not in NEVER_REFUSED_BY_RANGE, name)

    def test_one_number_alone_or_a_0_ahead(self):
        for name, arguments in CASES:
            answer = answered(name, handed(arguments))
            if name in ONE_NUMBER_ALONE or answer[0] < 0:
                self.assertEqual(len(answer), 1, name)
            else:
                self.assertEqual(answer[0], 0, name)


def fresh_light():
    """The module loaded anew, so that no call has been made of it yet."""
    spec = importlib.util.spec_from_file_location("fresh_light", TOP / "evenlight" / "light.py")
    module = importlib.util.module_from_spec(spec)
    spec.loader.exec_module(module)
    return module


def state_of(module):
    """All that a module and its functions could keep something in."""
    state = {}
    for name, value in vars(module).items():
        if inspect.isfunction(value):
            state[name] = (value, copy.deepcopy((vars(value), value.__defaults__)), value.__closure__)
        elif not name.startswith("__"):
            state[name] = copy.deepcopy(value)
    return state


class NothingKeptTest(unittest.TestCase):
    def test_first_call_answers_as_a_later_one(self):
        for name, arguments in CASES:
            answered(name, handed(arguments))
        for name, arguments in CASES:
            first = getattr(fresh_light(), name)(*handed(arguments))
            self.assertEqual(answered(name, handed(arguments)), first, name)

    def test_module_stays_as_it_was(self):
        module = fresh_light()
        before = state_of(module)
        for name, arguments in CASES:
            getattr(module, name)(*handed(arguments))
        self.assertEqual(state_of(module), before)

    def test_module_holds_nothing_that_can_change(self):
        for name, value in vars(light).items():
            if not name.startswith("__"):
                self.assertTrue(inspect.isfunction(value) or type(value) is int, name)


class Events:
    """What Python tells its watchers (imports, files, sockets, processes), noted while it is on."""

    def __init__(self):
        self.on = False
        self.noted = []

    def note(self, event, arguments):
        if self.on:
            self.noted.append(event)


EVENTS = Events()
# A watcher can't be taken away again, so there is one for the file, off but around calls.
sys.addaudithook(EVENTS.note)


class Untouched:
    """Stands for standard input and fails when anything of it is asked for."""

    def __getattr__(self, name):
        raise AssertionError("standard input was asked for " + name)


class NothingElseTest(unittest.TestCase):
    def test_nothing_is_printed(self):
        told = io.StringIO()
        with contextlib.redirect_stdout(told), contextlib.redirect_stderr(told):
            for name, arguments in CASES:
                answered(name, handed(arguments))
        self.assertEqual(told.getvalue(), "")

    def test_nothing_is_read_or_imported(self):
        modules = sorted(sys.modules)
        kept = sys.stdin
        sys.stdin = Untouched()
        EVENTS.noted = []
        EVENTS.on = True
        try:
            for name, arguments in CASES:
                answered(name, handed(arguments))
        finally:
            EVENTS.on = False
            sys.stdin = kept
        self.assertEqual(EVENTS.noted, [])
        self.assertEqual(sorted(sys.modules), modules)

    def test_watcher_sees_what_is_read_and_imported(self):
        EVENTS.noted = []
        EVENTS.on = True
        try:
            with open(__file__, encoding="utf-8"):
                pass
        finally:
            EVENTS.on = False
        self.assertIn("open", EVENTS.noted)

    def test_loading_prints_nothing_and_imports_nothing_else(self):
        rows = ("import sys", "before = set(sys.modules)", "import evenlight.light",
                "print(sorted(set(sys.modules) - before))")
        done = subprocess.run([sys.executable, "-B", "-c", "\n".join(rows)], cwd=TOP, stdin=subprocess.DEVNULL,
                              capture_output=True, text=True, check=True)
        self.assertEqual((done.stdout, done.stderr), ("['evenlight', 'evenlight.light']\n", ""))


GREAT = [(place * 37 + place // 256) % 256 for place in range(65536)]

GREAT_CASES = (
    ("li_counts", (GREAT,)),
    ("li_best", ([MOST] * 256,)),
    ("li_kth", (65536, GREAT)),
    ("li_black", (256, 128, GREAT)),
    ("li_around", (256, 64, 256, GREAT)),
    ("li_sums", (256, GREAT)),
    ("li_median", (256, GREAT)),
    ("li_darkest", (256, 64, GREAT)),
    ("li_lightest", (256, 64, GREAT)),
    ("li_behind", (256, 64, GREAT)),
    ("li_even", (GREAT, GREAT[::-1])),
    ("li_levels", (0, 255, GREAT)),
    ("li_table", (GREAT, TABLE)),
    ("li_half", (256, GREAT)),
    ("li_blend", (128, GREAT, GREAT[::-1])),
    ("li_sharper", (256, 256, GREAT)),
    ("li_narrow", (2, GREAT[:60000])),
    ("li_apart", (GREAT, GREAT[::-1])),
    ("li_even1", (MOST, MOST)),
)


class GreatInputTest(unittest.TestCase):
    def test_great_inputs_are_gone_through_by_loops(self):
        limit = sys.getrecursionlimit()
        answers = {}
        # Fewer calls within one another than a page has rows are enough, however much is handed in.
        sys.setrecursionlimit(len(inspect.stack(0)) + 100)
        try:
            for name, arguments in GREAT_CASES:
                answers[name] = answered(name, arguments)
        finally:
            sys.setrecursionlimit(limit)
        self.assertEqual(sorted(answers), sorted(INTERFACE))
        for name, answer in answers.items():
            self.assertEqual({type(number) for number in answer}, {int}, name)
            self.assertTrue(min(answer) >= 0 and max(answer) <= MOST, name)


if __name__ == "__main__":
    unittest.main()
