"""Promise 6: li_darkest, li_lightest and li_behind."""

import random
import unittest

from evenlight.light import li_behind, li_darkest, li_lightest


def near(w, d, x, c, r):
    """All bytes around column c, row r, d to all sides, straight from the document's words."""
    return [x[row * w + column] for row in range(len(x) // w) for column in range(w)
            if abs(row - r) <= d and abs(column - c) <= d]


def each_near(w, d, x):
    return [near(w, d, x, c, r) for r in range(len(x) // w) for c in range(w)]


def darkest_by_words(w, d, x):
    return [min(bytes_near) for bytes_near in each_near(w, d, x)]


def lightest_by_words(w, d, x):
    return [max(bytes_near) for bytes_near in each_near(w, d, x)]


def random_page(seed, w, h):
    rng = random.Random(seed)
    return [rng.randrange(256) for place in range(w * h)]


class DarkestTest(unittest.TestCase):
    def test_one_row_and_one_column(self):
        x = [9, 8, 7, 200, 100, 201, 202]
        self.assertEqual(li_darkest(7, 1, x), [0, 8, 7, 7, 7, 100, 100, 201])
        self.assertEqual(li_darkest(1, 1, x), [0, 8, 7, 7, 7, 100, 100, 201])
        self.assertEqual(li_darkest(7, 2, x), [0, 7, 7, 7, 7, 7, 100, 100])
        self.assertEqual(li_darkest(1, 2, x), [0, 7, 7, 7, 7, 7, 100, 100])

    def test_ordered_as_numbers(self):
        self.assertEqual(li_darkest(3, 1, [100, 20, 3]), [0, 20, 3, 3])

    def test_around_is_a_square(self):
        x = [255] * 49
        x[24] = 0
        dark = [255, 255, 0, 0, 0, 255, 255]
        self.assertEqual(li_darkest(7, 1, x), [0] + [255] * 14 + dark * 3 + [255] * 14)

    def test_a_row_s_end_is_not_beside_the_next_row_s_start(self):
        self.assertEqual(li_darkest(4, 1, [9, 9, 9, 1, 9, 9, 9, 9]), [0, 9, 9, 1, 1, 9, 9, 1, 1])

    def test_each_corner_and_each_edge(self):
        for place in range(20):
            x = [200] * 20
            x[place] = 3
            self.assertEqual(li_darkest(5, 1, x), [0] + darkest_by_words(5, 1, x))

    def test_distance_of_0_changes_nothing(self):
        for w, h in ((1, 1), (3, 5), (33, 2)):
            x = random_page(w, w, h)
            self.assertEqual(li_darkest(w, 0, x), [0] + x)

    def test_distance_greater_than_the_page(self):
        x = [7, 90, 8, 4, 90, 5]
        for d in (2, 3, 7, 63, 64):
            self.assertEqual(li_darkest(3, d, x), [0] + [4] * 6)
        self.assertEqual(li_darkest(1, 64, [31]), [0, 31])

    def test_distance_of_64_in_a_long_row_and_a_long_column(self):
        x = [255] * 256
        x[100] = 6
        told = [0] + [255] * 36 + [6] * 129 + [255] * 91
        self.assertEqual(li_darkest(256, 64, x), told)
        self.assertEqual(li_darkest(1, 64, x), told)

    def test_pages_as_the_words_tell(self):
        for w in (1, 2, 5, 17):
            for h in (1, 2, 6, 13):
                x = random_page(w * 100 + h, w, h)
                for d in (0, 1, 2, 4, 12, 64):
                    self.assertEqual(li_darkest(w, d, x), [0] + darkest_by_words(w, d, x), (w, h, d))

    def test_greatest_page(self):
        x = [255] * 65536
        x[100 * 256 + 200] = 1
        x[0] = 2
        told = [255] * 65536
        for r in range(256):
            for c in range(256):
                if c <= 64 and r <= 64:
                    told[r * 256 + c] = 2
                if c >= 136 and 36 <= r <= 164:
                    told[r * 256 + c] = 1
        self.assertEqual(li_darkest(256, 64, x), [0] + told)


class LightestTest(unittest.TestCase):
    def test_one_row_and_one_column(self):
        x = [200, 201, 202, 9, 100, 8, 7]
        self.assertEqual(li_lightest(7, 1, x), [0, 201, 202, 202, 202, 100, 100, 8])
        self.assertEqual(li_lightest(1, 1, x), [0, 201, 202, 202, 202, 100, 100, 8])
        self.assertEqual(li_lightest(7, 2, x), [0, 202, 202, 202, 202, 202, 100, 100])
        self.assertEqual(li_lightest(1, 2, x), [0, 202, 202, 202, 202, 202, 100, 100])

    def test_ordered_as_numbers(self):
        self.assertEqual(li_lightest(3, 1, [3, 20, 100]), [0, 20, 100, 100])

    def test_black_and_white_stay_what_they_are(self):
        self.assertEqual(li_lightest(3, 1, [0] * 9), [0] + [0] * 9)
        self.assertEqual(li_lightest(3, 1, [255] * 9), [0] + [255] * 9)

    def test_around_is_a_square(self):
        x = [0] * 49
        x[24] = 255
        light = [0, 0, 255, 255, 255, 0, 0]
        self.assertEqual(li_lightest(7, 1, x), [0] + [0] * 14 + light * 3 + [0] * 14)

    def test_a_row_s_end_is_not_beside_the_next_row_s_start(self):
        self.assertEqual(li_lightest(4, 1, [1, 1, 1, 9, 1, 1, 1, 1]), [0, 1, 1, 9, 9, 1, 1, 9, 9])

    def test_each_corner_and_each_edge(self):
        for place in range(20):
            x = [3] * 20
            x[place] = 200
            self.assertEqual(li_lightest(5, 1, x), [0] + lightest_by_words(5, 1, x))

    def test_distance_of_0_changes_nothing(self):
        for w, h in ((1, 1), (3, 5), (33, 2)):
            x = random_page(w, w, h)
            self.assertEqual(li_lightest(w, 0, x), [0] + x)

    def test_distance_greater_than_the_page(self):
        x = [7, 4, 8, 90, 4, 5]
        for d in (2, 3, 7, 63, 64):
            self.assertEqual(li_lightest(3, d, x), [0] + [90] * 6)
        self.assertEqual(li_lightest(1, 64, [31]), [0, 31])

    def test_distance_of_64_in_a_long_row_and_a_long_column(self):
        x = [5] * 256
        x[100] = 6
        told = [0] + [5] * 36 + [6] * 129 + [5] * 91
        self.assertEqual(li_lightest(256, 64, x), told)
        self.assertEqual(li_lightest(1, 64, x), told)

    def test_pages_as_the_words_tell(self):
        for w in (1, 2, 5, 17):
            for h in (1, 2, 6, 13):
                x = random_page(w * 200 + h, w, h)
                for d in (0, 1, 2, 4, 12, 64):
                    self.assertEqual(li_lightest(w, d, x), [0] + lightest_by_words(w, d, x), (w, h, d))

    def test_greatest_page(self):
        x = [0] * 65536
        x[255 * 256 + 70] = 254
        told = [254 if r >= 191 and 6 <= c <= 134 else 0 for r in range(256) for c in range(256)]
        self.assertEqual(li_lightest(256, 64, x), [0] + told)


class BehindTest(unittest.TestCase):
    def test_thin_letters_are_taken_away(self):
        x = [200, 201, 10, 203, 204, 205, 20, 207]
        # The lightest: 201 201 203 204 205 205 207 207.
        self.assertEqual(li_behind(8, 1, x), [0, 201, 201, 201, 203, 204, 205, 205, 207])
        self.assertEqual(li_behind(1, 1, x), [0, 201, 201, 201, 203, 204, 205, 205, 207])

    def test_lightest_comes_before_darkest(self):
        # A speck of black goes, a speck of white stays.
        self.assertEqual(li_behind(5, 1, [9, 9, 0, 9, 9]), [0] + [9] * 5)
        self.assertEqual(li_behind(5, 1, [0, 0, 9, 0, 0]), [0, 0, 0, 9, 0, 0])

    def test_broad_letters_stay(self):
        x = [200, 200, 200, 5, 5, 5, 200, 200, 200]
        self.assertEqual(li_behind(9, 1, x), [0] + x)
        self.assertEqual(li_behind(9, 2, x), [0] + [200] * 9)

    def test_distance_of_0_changes_nothing(self):
        for w, h in ((1, 1), (3, 5), (33, 2)):
            x = random_page(w, w, h)
            self.assertEqual(li_behind(w, 0, x), [0] + x)

    def test_distance_greater_than_the_page(self):
        x = [7, 4, 8, 90, 4, 5]
        for d in (2, 3, 7, 63, 64):
            self.assertEqual(li_behind(3, d, x), [0] + [90] * 6)
        self.assertEqual(li_behind(1, 64, [31]), [0, 31])

    def test_dark_corner(self):
        # Around a corner, 1 to all sides, are but two columns and two rows: a dark square of two stays there.
        for x in ([1, 1, 60, 60, 1, 1, 60, 60] + [60] * 8, [60] * 8 + [60, 60, 1, 1, 60, 60, 1, 1]):
            self.assertEqual(li_behind(4, 1, x), [0] + x)
        for x in ([1, 1, 60, 60] + [60] * 12, [1] + [60] * 15, [60] * 14 + [1, 1]):
            self.assertEqual(li_behind(4, 1, x), [0] + [60] * 16)

    def test_dark_edge(self):
        # Around a place of the upper edge are three columns and two rows.
        x = [60, 1, 1, 1, 60] * 2 + [60] * 10
        self.assertEqual(li_behind(5, 1, x), [0] + x)
        self.assertEqual(li_behind(5, 1, [60, 1, 1, 60, 60] * 2 + [60] * 10), [0] + [60] * 20)
        self.assertEqual(li_behind(5, 1, [60, 1, 1, 1, 60] + [60] * 15), [0] + [60] * 20)

    def test_dark_middle(self):
        x = [60] * 5 + [60, 1, 1, 1, 60] * 3 + [60] * 5
        self.assertEqual(li_behind(5, 1, x), [0] + x)
        self.assertEqual(li_behind(5, 1, [60] * 5 + [60, 1, 1, 1, 60] * 2 + [60] * 10), [0] + [60] * 25)

    def test_pages_as_the_words_tell(self):
        for w in (1, 2, 5, 17):
            for h in (1, 2, 6, 13):
                x = random_page(w * 300 + h, w, h)
                for d in (0, 1, 2, 4, 12, 64):
                    told = darkest_by_words(w, d, lightest_by_words(w, d, x))
                    self.assertEqual(li_behind(w, d, x), [0] + told, (w, h, d))

    def test_greatest_page(self):
        # A dark square of 129 rows and columns stays; one of 128 goes.
        for side, stays in ((129, True), (128, False)):
            x = [0 if 70 <= r < 70 + side and 80 <= c < 80 + side else 250 for r in range(256) for c in range(256)]
            self.assertEqual(li_behind(256, 64, x), [0] + (x if stays else [250] * 65536))

    def test_long_row_and_long_column(self):
        x = [3] * 64 + [250] + [3] * 65 + [250] * 126
        told = [250] * 256
        self.assertEqual(li_behind(256, 64, x), [0] + told)
        self.assertEqual(li_behind(1, 64, x), [0] + told)


if __name__ == "__main__":
    unittest.main()
