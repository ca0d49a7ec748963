"""Promise 3, its second sentence: li_around."""

import random
import unittest

from evenlight.light import li_around

MOST = 4294967295


def is_black(w, d, part, x, c, r):
    """Whether there is a dot at column c, row r, straight from the document's words."""
    h = len(x) // w
    near = [x[row * w + column] for row in range(max(0, r - d), min(h, r + d + 1))
            for column in range(max(0, c - d), min(w, c + d + 1))]
    return 256 * len(near) * x[r * w + c] < part * sum(near)


def around_by_words(w, d, part, x):
    each = (w + 31) // 32
    h = len(x) // w
    words = [0] * (each * h)
    for r in range(h):
        for c in range(w):
            if is_black(w, d, part, x, c, r):
                words[r * each + c // 32] |= 1 << (c % 32)
    return [0] + words


def random_page(seed, w, h):
    rng = random.Random(seed)
    return [rng.randrange(256) for place in range(w * h)]


class ComparisonTest(unittest.TestCase):
    def test_one_row(self):
        # 2 * 10 < 30; 3 * 20 is not less than 60; 2 * 30 is not less than 50.
        self.assertEqual(li_around(3, 1, 256, [10, 20, 30]), [0, 1])

    def test_alike_bytes_are_not_less(self):
        for value in (0, 1, 128, 255):
            self.assertEqual(li_around(3, 1, 256, [value] * 9), [0, 0, 0, 0])

    def test_mean_is_not_rounded(self):
        self.assertEqual(li_around(2, 1, 256, [3, 4]), [0, 1])
        self.assertEqual(li_around(2, 1, 256, [254, 255]), [0, 1])

    def test_part_of_128_at_its_rim(self):
        # 256 * 2 * 1 is 128 * 4.
        self.assertEqual(li_around(2, 1, 128, [1, 3]), [0, 0])
        self.assertEqual(li_around(2, 1, 129, [1, 3]), [0, 1])

    def test_product_with_part_is_not_rounded(self):
        # 256 * 2 * 1 = 512 is less than 171 * 3 = 513, and not less than 170 * 3 = 510.
        self.assertEqual(li_around(2, 1, 171, [1, 2]), [0, 1])
        self.assertEqual(li_around(2, 1, 170, [1, 2]), [0, 0])

    def test_speck_on_white(self):
        x = [255] * 25
        x[12] = 0
        self.assertEqual(li_around(5, 1, 230, x), [0, 0, 0, 4, 0, 0])


class PartTest(unittest.TestCase):
    def test_part_of_0_gives_no_dot(self):
        self.assertEqual(li_around(3, 1, 0, [0, 255, 1]), [0, 0])
        self.assertEqual(li_around(33, 64, 0, random_page(1, 33, 3)), [0] + [0] * 6)

    def test_part_of_1_gives_dots_where_a_byte_is_0(self):
        self.assertEqual(li_around(3, 1, 1, [0, 255, 1]), [0, 1])

    def test_part_of_256_is_answered(self):
        self.assertEqual(li_around(3, 2, 256, [0, 255, 1]), [0, 5])

    def test_part_beyond_its_range(self):
        for part in (257, 258, 65536, MOST):
            self.assertEqual(li_around(3, 1, part, [0, 255, 1]), [-2])
            self.assertEqual(li_around(3, 1, part, []), [-2])

    def test_all_out_of_range_at_once(self):
        self.assertEqual(li_around(0, 65, 257, []), [-2])
        self.assertEqual(li_around(257, MOST, MOST, []), [-2])


class DistanceTest(unittest.TestCase):
    def test_distance_of_0_gives_no_dot(self):
        for part in (0, 1, 255, 256):
            self.assertEqual(li_around(33, 0, part, random_page(2, 33, 3)), [0] + [0] * 6)

    def test_distance_greater_than_the_page(self):
        # The mean of the whole page is 50.
        x = [49, 50, 51, 40, 60, 50]
        for d in (2, 3, 10, 64):
            self.assertEqual(li_around(3, d, 256, x), [0, 1, 1])

    def test_distance_is_told_apart_by_one(self):
        x = [100, 100, 100, 100, 255]
        # The column of 255 is 4 away from column 0.
        self.assertEqual(li_around(5, 3, 256, x), [0, 14])
        self.assertEqual(li_around(5, 4, 256, x), [0, 15])
        self.assertEqual(li_around(1, 3, 256, x), [0, 0, 1, 1, 1, 0])
        self.assertEqual(li_around(1, 4, 256, x), [0, 1, 1, 1, 1, 0])

    def test_distance_of_64_in_a_long_row_and_a_long_column(self):
        x = [100] * 255 + [255]
        columns = [0, 0, 0, 0, 0, 2147483648, MOST, 2147483647]
        self.assertEqual(li_around(256, 64, 256, x), [0] + columns)
        self.assertEqual(li_around(1, 64, 256, x), [0] + [0] * 191 + [1] * 64 + [0])


class PlaceTest(unittest.TestCase):
    def test_corners_and_edges_have_fewer_around_them(self):
        x = [90, 100, 90,
             100, 255, 100,
             90, 100, 90]
        # A corner has 545 in 4 places, an edge 735 in 6, the middle 1015 in 9.
        self.assertEqual(li_around(3, 1, 169, x), [0, 0, 0, 0])
        self.assertEqual(li_around(3, 1, 170, x), [0, 5, 0, 5])
        self.assertEqual(li_around(3, 1, 208, x), [0, 5, 0, 5])
        self.assertEqual(li_around(3, 1, 209, x), [0, 7, 5, 7])

    def test_a_row_s_end_is_not_beside_the_next_row_s_start(self):
        self.assertEqual(li_around(3, 1, 256, [9, 9, 255, 9, 9, 9, 9, 9, 9]), [0, 2, 6, 0])

    def test_pages_as_the_words_tell(self):
        for w in (1, 2, 3, 31, 32, 33, 64):
            for h in (1, 2, 7):
                x = random_page(w * 10 + h, w, h)
                for d in (0, 1, 2, 5, 64):
                    for part in (1, 128, 230, 256):
                        self.assertEqual(li_around(w, d, part, x), around_by_words(w, d, part, x), (w, h, d, part))

    def test_greatest_page_at_places_of_it(self):
        x = random_page(5, 256, 256)
        rng = random.Random(6)
        sides = (0, 1, 63, 64, 65, 190, 191, 192, 254, 255)
        places = [(c, r) for c in sides for r in sides] + [(rng.randrange(256), rng.randrange(256)) for k in range(100)]
        for d, part in ((64, 240), (20, 256)):
            words = li_around(256, d, part, x)[1:]
            for c, r in places:
                dot = words[r * 8 + c // 32] >> (c % 32) & 1
                self.assertEqual(dot == 1, is_black(256, d, part, x, c, r), (c, r, d))

    def test_bits_behind_the_last_column_are_0(self):
        for w, last in ((31, 1073741823), (32, 2147483647), (33, 0), (64, 2147483647)):
            whole = [MOST] * ((w - 1) // 32)
            row = [0] * (w - 1) + [255]
            self.assertEqual(li_around(w, 64, 256, row * 2), [0] + (whole + [last]) * 2)


if __name__ == "__main__":
    unittest.main()
