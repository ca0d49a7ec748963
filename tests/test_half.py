"""Promise 9, its first sentence: li_half."""

import random
import unittest

from evenlight.light import li_half


def half_by_words(w, x):
    """Each four by themselves, straight from the document's words."""
    h = len(x) // w
    halves = []
    for r in range(h // 2):
        for c in range(w // 2):
            four = [x[(2 * r + down) * w + 2 * c + along] for down in (0, 1) for along in (0, 1)]
            halves.append((sum(four) + 2) // 4)
    return [0] + halves


class HalfTest(unittest.TestCase):
    def test_one_of_four(self):
        self.assertEqual(li_half(2, [10, 20, 30, 40]), [0, 25])

    def test_sum_and_2_by_4(self):
        for total, told in ((0, 0), (1, 0), (2, 1), (3, 1), (4, 1), (5, 1), (6, 2), (7, 2)):
            self.assertEqual(li_half(2, [total, 0, 0, 0]), [0, told])
            self.assertEqual(li_half(2, [0, 0, 0, total]), [0, told])

    def test_each_of_the_four_counts_alike(self):
        for place in range(4):
            x = [0] * 4
            x[place] = 100
            self.assertEqual(li_half(2, x), [0, 25])

    def test_rounded_once_not_by_pairs(self):
        # Pair by pair, each rounded up, it would be 1.
        self.assertEqual(li_half(2, [1, 0, 0, 0]), [0, 0])
        # Pair by pair, each rounded down, it would be 0.
        self.assertEqual(li_half(2, [1, 0, 1, 0]), [0, 1])

    def test_black_and_white_stay_what_they_are(self):
        self.assertEqual(li_half(4, [0] * 16), [0] * 5)
        self.assertEqual(li_half(4, [255] * 16), [0] + [255] * 4)
        self.assertEqual(li_half(2, [255, 255, 255, 254]), [0, 255])
        self.assertEqual(li_half(2, [255, 255, 254, 253]), [0, 254])

    def test_columns_and_rows_are_not_mixed_up(self):
        x = [1, 1, 2, 2, 3, 3,
             1, 1, 2, 2, 3, 3,
             4, 4, 5, 5, 6, 6,
             4, 4, 5, 5, 6, 6]
        self.assertEqual(li_half(6, x), [0, 1, 2, 3, 4, 5, 6])
        tall = [1, 1, 1, 1, 2, 2, 2, 2, 3, 3, 3, 3]
        self.assertEqual(li_half(2, tall), [0, 1, 2, 3])


class LeftOutTest(unittest.TestCase):
    def test_last_odd_column_is_left_out(self):
        self.assertEqual(li_half(3, [1, 1, 255, 1, 1, 255]), [0, 1])
        self.assertEqual(li_half(5, [8, 8, 9, 9, 255] * 4), [0, 8, 9, 8, 9])

    def test_last_odd_row_is_left_out(self):
        self.assertEqual(li_half(2, [1, 1, 1, 1, 255, 255]), [0, 1])
        self.assertEqual(li_half(4, [8, 8, 9, 9] * 2 + [255] * 4), [0, 8, 9])

    def test_last_odd_column_and_row_are_left_out(self):
        self.assertEqual(li_half(3, [7, 7, 255, 7, 7, 255, 255, 255, 255]), [0, 7])

    def test_one_column_answers_0_alone(self):
        for h in (1, 2, 3, 255, 256):
            self.assertEqual(li_half(1, [200] * h), [0])

    def test_one_row_answers_0_alone(self):
        for w in (1, 2, 3, 255, 256):
            self.assertEqual(li_half(w, [200] * w), [0])

    def test_more_rows_of_one_column_are_refused(self):
        self.assertEqual(li_half(1, [200] * 257), [-2])

    def test_wider_row_is_refused(self):
        self.assertEqual(li_half(257, [200] * 257), [-2])


class PageTest(unittest.TestCase):
    def test_pages_as_the_words_tell(self):
        rng = random.Random(21)
        for w in (1, 2, 3, 4, 5, 32, 33, 255, 256):
            for h in (1, 2, 3, 4, 7, 8):
                for most in (3, 256):
                    x = [rng.randrange(most) for place in range(w * h)]
                    self.assertEqual(li_half(w, x), half_by_words(w, x), (w, h))

    def test_greatest_pages(self):
        rng = random.Random(22)
        for w, h in ((256, 256), (255, 256), (256, 255), (255, 255), (2, 256), (3, 255)):
            x = [rng.randrange(256) for place in range(w * h)]
            self.assertEqual(li_half(w, x), half_by_words(w, x), (w, h))

    def test_width_of_0_and_no_rows(self):
        for w in (0, 1, 2, 256, 257, 4294967295):
            self.assertEqual(li_half(w, []), [-2])


if __name__ == "__main__":
    unittest.main()
