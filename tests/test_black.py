"""Promise 3, its first sentence: li_black; and what the words say of pages and dots."""

import random
import unittest

from evenlight.light import li_black

MOST = 4294967295


def black_by_words(w, t, x):
    """The dots set bit by bit, straight from the document's words."""
    each = (w + 31) // 32
    h = len(x) // w
    words = [0] * (each * h)
    for r in range(h):
        for c in range(w):
            if x[r * w + c] <= t:
                words[r * each + c // 32] |= 1 << (c % 32)
    return [0] + words


class DotsTest(unittest.TestCase):
    def test_small_pages(self):
        self.assertEqual(li_black(1, 9, [9]), [0, 1])
        self.assertEqual(li_black(1, 9, [10]), [0, 0])
        self.assertEqual(li_black(3, 100, [100, 101, 99, 255, 0, 255]), [0, 5, 2])

    def test_first_column_is_the_lowest_bit(self):
        self.assertEqual(li_black(4, 0, [0, 1, 1, 1]), [0, 1])
        self.assertEqual(li_black(4, 0, [1, 1, 1, 0]), [0, 8])

    def test_column_31_and_column_32(self):
        for column, words in ((31, [2147483648, 0]), (32, [0, 1])):
            x = [255] * 33
            x[column] = 0
            self.assertEqual(li_black(33, 128, x), [0] + words)

    def test_rows_stay_apart(self):
        self.assertEqual(li_black(33, 5, [0] * 33 + [6] * 33 + [5] * 33), [0, MOST, 1, 0, 0, MOST, 1])
        self.assertEqual(li_black(2, 5, [0, 9, 9, 0, 0, 0]), [0, 1, 2, 3])

    def test_widths_as_the_words_tell(self):
        rng = random.Random(3)
        for w in (1, 2, 31, 32, 33, 63, 64, 65, 100, 255, 256):
            for h in (1, 2, 5):
                x = [rng.randrange(256) for place in range(w * h)]
                for t in (0, 1, 127, 254, 255):
                    self.assertEqual(li_black(w, t, x), black_by_words(w, t, x))

    def test_bits_behind_the_last_column_are_0(self):
        for w, last in ((1, 1), (31, 2147483647), (32, MOST), (33, 1), (63, 2147483647), (100, 15), (255, 2147483647)):
            whole = [MOST] * ((w - 1) // 32)
            self.assertEqual(li_black(w, 255, [0] * (3 * w)), [0] + (whole + [last]) * 3)


class ThresholdTest(unittest.TestCase):
    def test_least_threshold(self):
        self.assertEqual(li_black(3, 0, [0, 1, 255]), [0, 1])

    def test_greatest_threshold(self):
        self.assertEqual(li_black(3, 255, [0, 254, 255]), [0, 7])
        self.assertEqual(li_black(3, 254, [0, 254, 255]), [0, 3])

    def test_threshold_beyond_its_range(self):
        for t in (256, 257, MOST):
            self.assertEqual(li_black(3, t, [0, 1, 255]), [-2])
            self.assertEqual(li_black(3, t, []), [-2])


class PageTest(unittest.TestCase):
    def test_width_beyond_its_range(self):
        self.assertEqual(li_black(0, 5, []), [-2])
        for w in (257, 258, 512):
            self.assertEqual(li_black(w, 5, [0] * w), [-2])
            self.assertEqual(li_black(w, 5, []), [-2])
        self.assertEqual(li_black(70000, 5, [0] * 70000), [-2])
        self.assertEqual(li_black(MOST, 5, []), [-2])

    def test_no_rows(self):
        for w in (1, 32, 256):
            self.assertEqual(li_black(w, 5, []), [-2])

    def test_most_rows_are_answered(self):
        self.assertEqual(li_black(1, 5, [0, 6] * 128), [0] + [1, 0] * 128)
        self.assertEqual(li_black(33, 5, [0] * (33 * 256)), [0] + [MOST, 1] * 256)
        self.assertEqual(li_black(256, 5, [5] * 65536), [0] + [MOST] * 2048)

    def test_more_rows_are_refused(self):
        for w in (1, 33, 256):
            self.assertEqual(li_black(w, 5, [0] * (w * 257)), [-2])
        self.assertEqual(li_black(1, 5, [0] * 70000), [-2])

    def test_all_out_of_range_at_once(self):
        self.assertEqual(li_black(0, 256, []), [-2])
        self.assertEqual(li_black(257, MOST, []), [-2])


if __name__ == "__main__":
    unittest.main()
