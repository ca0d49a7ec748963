"""What the document says of every call that takes a page: which w, h and d are answered, and which are refused."""

import unittest

from evenlight import light

MOST = 4294967295


def words_in_a_row(w):
    return (w + 31) // 32


# Each call with its numbers besides w in their ranges, and how many numbers it answers behind the 0.
PAGE_CALLS = {
    "li_black": (lambda w, x: light.li_black(w, 128, x), lambda w, h: h * words_in_a_row(w)),
    "li_around": (lambda w, x: light.li_around(w, 3, 230, x), lambda w, h: h * words_in_a_row(w)),
    "li_sums": (lambda w, x: light.li_sums(w, x), lambda w, h: (h + 1) * (w + 1)),
    "li_median": (lambda w, x: light.li_median(w, x), lambda w, h: h * w),
    "li_darkest": (lambda w, x: light.li_darkest(w, 3, x), lambda w, h: h * w),
    "li_lightest": (lambda w, x: light.li_lightest(w, 3, x), lambda w, h: h * w),
    "li_behind": (lambda w, x: light.li_behind(w, 3, x), lambda w, h: h * w),
    "li_half": (lambda w, x: light.li_half(w, x), lambda w, h: (h // 2) * (w // 2)),
    "li_sharper": (lambda w, x: light.li_sharper(w, 64, x), lambda w, h: h * w),
}

CALLS_WITH_D = {
    "li_around": lambda w, d, x: light.li_around(w, d, 230, x),
    "li_darkest": lambda w, d, x: light.li_darkest(w, d, x),
    "li_lightest": lambda w, d, x: light.li_lightest(w, d, x),
    "li_behind": lambda w, d, x: light.li_behind(w, d, x),
}


class SizeTest(unittest.TestCase):
    def check_refused(self, w, x):
        for name, (call, length) in PAGE_CALLS.items():
            self.assertEqual(call(w, x), [-2], (name, w, len(x)))

    def test_sizes_in_their_range_are_answered(self):
        for w in (1, 2, 31, 32, 33, 64, 255, 256):
            for h in (1, 2, 255, 256):
                x = [(place * 77) % 256 for place in range(w * h)]
                for name, (call, length) in PAGE_CALLS.items():
                    answer = call(w, x)
                    self.assertEqual((answer[0], len(answer)), (0, 1 + length(w, h)), (name, w, h))
                    self.assertTrue(min(answer) >= 0, (name, w, h))

    def test_width_of_0_is_refused(self):
        self.check_refused(0, [])

    def test_width_above_256_is_refused(self):
        for w in (257, 258, 512, 70000):
            self.check_refused(w, [0] * w)
            self.check_refused(w, [])
        self.check_refused(257, [0] * (257 * 256))
        self.check_refused(MOST, [])

    def test_page_without_rows_is_refused(self):
        for w in (1, 2, 32, 256):
            self.check_refused(w, [])

    def test_more_than_256_rows_are_refused(self):
        for w in (1, 2, 33, 256):
            self.check_refused(w, [0] * (w * 257))
        self.check_refused(1, [0] * 70000)


class DistanceTest(unittest.TestCase):
    def test_distances_in_their_range_are_answered(self):
        for name, call in CALLS_WITH_D.items():
            for d in (0, 1, 63, 64):
                for w in (1, 2, 256):
                    self.assertEqual(call(w, d, [7] * (2 * w))[0], 0, (name, w, d))

    def test_distances_above_64_are_refused(self):
        for name, call in CALLS_WITH_D.items():
            for d in (65, 66, 256, MOST):
                self.assertEqual(call(2, d, [7, 7]), [-2], (name, d))
                self.assertEqual(call(2, d, []), [-2], (name, d))
                self.assertEqual(call(256, d, [7] * 65536), [-2], (name, d))

    def test_distance_and_page_out_of_range_at_once(self):
        for name, call in CALLS_WITH_D.items():
            self.assertEqual(call(0, 65, []), [-2], name)
            self.assertEqual(call(257, MOST, []), [-2], name)
            self.assertEqual(call(1, 65, [7] * 257), [-2], name)


if __name__ == "__main__":
    unittest.main()
