"""Promise 10: li_sharper."""

import random
import unittest

from evenlight.light import li_sharper

MOST = 4294967295


def sharper_by_words(w, k, x):
    """Each byte with its four neighbours, itself for those beyond the rim, straight from the document's words."""
    h = len(x) // w
    sharper = []
    for r in range(h):
        for c in range(w):
            here = x[r * w + c]
            beside = 0
            for column, row in ((c - 1, r), (c + 1, r), (c, r - 1), (c, r + 1)):
                inside = 0 <= column < w and 0 <= row < h
                beside += x[row * w + column] if inside else here
            number = here + (k * (4 * here - beside) + 32) // 64
            sharper.append(0 if number < 0 else 255 if number > 255 else number)
    return [0] + sharper


def middle_of(k, here, beside):
    """What the middle of a page of nine becomes."""
    left, right, above, below = beside
    return li_sharper(3, k, [0, above, 0, left, here, right, 0, below, 0])[5]


class SharperTest(unittest.TestCase):
    def test_led_away_from_what_is_beside(self):
        self.assertEqual(middle_of(64, 100, (90, 95, 99, 98)), 118)
        self.assertEqual(middle_of(64, 100, (110, 105, 101, 102)), 82)
        self.assertEqual(middle_of(16, 100, (90, 90, 90, 90)), 110)

    def test_each_of_the_four_counts_alike(self):
        for place in range(4):
            beside = [100] * 4
            beside[place] = 84
            self.assertEqual(middle_of(64, 100, beside), 116)
            self.assertEqual(middle_of(128, 100, beside), 132)

    def test_those_across_do_not_count(self):
        for across in (0, 100, 255):
            x = [across, 100, across, 100, 100, 100, across, 100, across]
            self.assertEqual(li_sharper(3, 256, x)[5], 100)

    def test_alike_bytes_stay(self):
        for value in (0, 1, 128, 254, 255):
            for k in (0, 1, 64, 255, 256):
                self.assertEqual(li_sharper(4, k, [value] * 12), [0] + [value] * 12)


class RoundingTest(unittest.TestCase):
    def test_quotients_above_0(self):
        # One more than its four neighbours by 1: k * 1 + 32 reaches 64 at a k of 32, 128 at a k of 96.
        for k, told in ((0, 100), (31, 100), (32, 101), (95, 101), (96, 102)):
            self.assertEqual(middle_of(k, 100, (100, 100, 100, 99)), told, k)

    def test_quotients_below_0_are_rounded_down(self):
        # -k + 32 is below 0 from a k of 33 on, below -64 from 97 on, below -128 from 161 on.
        for k, told in ((0, 100), (32, 100), (33, 99), (96, 99), (97, 98), (160, 98), (161, 97), (256, 96)):
            self.assertEqual(middle_of(k, 100, (100, 100, 100, 101)), told, k)

    def test_each_difference_and_each_k(self):
        for k in (1, 2, 31, 32, 33, 63, 64, 65, 255, 256):
            for change in range(-40, 41):
                told = 128 + (32 - k * change) // 64
                self.assertEqual(middle_of(k, 128, (128, 128 + change, 128, 128)), max(0, min(told, 255)))


class HeldTest(unittest.TestCase):
    def test_held_at_255(self):
        self.assertEqual(middle_of(64, 250, (249, 249, 249, 248)), 255)
        self.assertEqual(middle_of(64, 250, (249, 249, 248, 248)), 255)
        self.assertEqual(middle_of(64, 250, (249, 249, 249, 249)), 254)
        self.assertEqual(middle_of(256, 255, (0, 0, 0, 0)), 255)

    def test_held_at_0(self):
        self.assertEqual(middle_of(64, 5, (6, 6, 6, 7)), 0)
        self.assertEqual(middle_of(64, 5, (6, 6, 7, 7)), 0)
        self.assertEqual(middle_of(64, 5, (6, 6, 6, 6)), 1)
        self.assertEqual(middle_of(256, 0, (255, 255, 255, 255)), 0)

    def test_black_beside_white(self):
        self.assertEqual(li_sharper(2, 256, [0, 255]), [0, 0, 255])
        self.assertEqual(li_sharper(1, 256, [0, 255]), [0, 0, 255])


class KTest(unittest.TestCase):
    def test_k_of_0_changes_nothing(self):
        rng = random.Random(23)
        for w, h in ((1, 1), (5, 3), (33, 2)):
            x = [rng.randrange(256) for place in range(w * h)]
            self.assertEqual(li_sharper(w, 0, x), [0] + x)

    def test_k_of_256_is_four_times(self):
        self.assertEqual(middle_of(256, 100, (99, 98, 100, 100)), 112)

    def test_k_above_256_is_refused(self):
        for k in (257, 258, 512, 65536, MOST):
            self.assertEqual(li_sharper(2, k, [1, 2, 3, 4]), [-2])
            self.assertEqual(li_sharper(2, k, []), [-2])
            self.assertEqual(li_sharper(256, k, [7] * 65536), [-2])

    def test_k_and_page_out_of_range_at_once(self):
        self.assertEqual(li_sharper(0, 257, []), [-2])
        self.assertEqual(li_sharper(257, MOST, [0] * 257), [-2])
        self.assertEqual(li_sharper(1, 257, [0] * 257), [-2])

    def test_page_out_of_range(self):
        for k in (0, 256):
            self.assertEqual(li_sharper(0, k, []), [-2])
            self.assertEqual(li_sharper(257, k, [0] * 257), [-2])
            self.assertEqual(li_sharper(1, k, [0] * 257), [-2])
            self.assertEqual(li_sharper(1, k, []), [-2])


class PlaceTest(unittest.TestCase):
    def test_corners(self):
        # A corner has two beside it and counts itself twice.
        x = [100, 110, 120,
             90, 0, 80,
             130, 140, 150]
        answer = li_sharper(3, 64, x)[1:]
        self.assertEqual([answer[0], answer[2], answer[6], answer[8]], [100, 170, 160, 230])

    def test_edges(self):
        # A place at an edge has three beside it and counts itself once.
        x = [60, 100, 70,
             110, 105, 120,
             80, 130, 90]
        answer = li_sharper(3, 64, x)[1:]
        self.assertEqual([answer[1], answer[3], answer[5], answer[7]], [165, 195, 215, 245])

    def test_one_place(self):
        for value in (0, 13, 255):
            for k in (0, 1, 256):
                self.assertEqual(li_sharper(1, k, [value]), [0, value])

    def test_one_row_and_one_column(self):
        x = [100, 104, 100, 90, 91]
        self.assertEqual(li_sharper(5, 64, x), [0, 96, 112, 106, 79, 92])
        self.assertEqual(li_sharper(1, 64, x), [0, 96, 112, 106, 79, 92])

    def test_a_row_s_end_is_not_beside_the_next_row_s_start(self):
        self.assertEqual(li_sharper(2, 64, [50, 60, 50, 60]), [0, 40, 70, 40, 70])

    def test_changed_bytes_are_not_used_again(self):
        # By the byte as it becomes, the next one would be led away further.
        self.assertEqual(li_sharper(3, 64, [100, 101, 102]), [0, 99, 101, 103])
        self.assertEqual(li_sharper(1, 64, [100, 101, 102]), [0, 99, 101, 103])

    def test_pages_as_the_words_tell(self):
        rng = random.Random(24)
        for w in (1, 2, 3, 4, 33, 255, 256):
            for h in (1, 2, 3, 8):
                for least, most in ((0, 256), (120, 130)):
                    x = [rng.randrange(least, most) for place in range(w * h)]
                    for k in (0, 1, 17, 64, 255, 256):
                        self.assertEqual(li_sharper(w, k, x), sharper_by_words(w, k, x), (w, h, k))

    def test_greatest_page(self):
        rng = random.Random(25)
        x = [rng.randrange(100, 156) for place in range(65536)]
        self.assertEqual(li_sharper(256, 37, x), sharper_by_words(256, 37, x))

    def test_long_row_and_long_column(self):
        rng = random.Random(26)
        x = [rng.randrange(256) for place in range(256)]
        self.assertEqual(li_sharper(256, 20, x), sharper_by_words(256, 20, x))
        self.assertEqual(li_sharper(1, 20, x), sharper_by_words(1, 20, x))


if __name__ == "__main__":
    unittest.main()
