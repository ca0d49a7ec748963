"""Promise 6: li_darkest."""

import random
import unittest

from evenlight.light import li_darkest


def near(w, d, x, c, r):
    """All bytes around column c, row r, d to all sides, straight from the document's words."""
    return [x[row * w + column] for row in range(len(x) // w) for column in range(w)
            if abs(row - r) <= d and abs(column - c) <= d]


def each_near(w, d, x):
    return [near(w, d, x, c, r) for r in range(len(x) // w) for c in range(w)]


def random_page(seed, w, h):
    rng = random.Random(seed)
    return [rng.randrange(256) for place in range(w * h)]


class DarkestTest(unittest.TestCase):
    def test_one_row_and_one_column(self):
        x = [9, 8, 7, 200, 100, 201, 202]
        self.assertEqual(li_darkest(7, 1, x), [0, 8, 7, 7, 7, 100, 100, 201])
        self.assertEqual(li_darkest(1, 1, x), [0, 8, 7, 7, 7, 100, 100, 201])
        self.assertEqual(li_darkest(7, 2, x), [0, 7, 7, 7, 7, 7, 100, 100])
        self.assertEqual(li_darkest(1, 2, x), [0, 7, 7, 7, 7, 7, 100, 100])

    def test_ordered_as_numbers(self):
        self.assertEqual(li_darkest(3, 1, [100, 20, 3]), [0, 20, 3, 3])

    def test_around_is_a_square(self):
        x = [255] * 49
        x[24] = 0
        dark = [255, 255, 0, 0, 0, 255, 255]
        self.assertEqual(li_darkest(7, 1, x), [0] + [255] * 14 + dark * 3 + [255] * 14)

    def test_a_row_s_end_is_not_beside_the_next_row_s_start(self):
        self.assertEqual(li_darkest(4, 1, [9, 9, 9, 1, 9, 9, 9, 9]), [0, 9, 9, 1, 1, 9, 9, 1, 1])

    def test_each_corner_and_each_edge(self):
        for place in range(20):
            x = [200] * 20
            x[place] = 3
            told = [min(bytes_near) for bytes_near in each_near(5, 1, x)]
            self.assertEqual(li_darkest(5, 1, x), [0] + told)

    def test_distance_of_0_changes_nothing(self):
        for w, h in ((1, 1), (3, 5), (33, 2)):
            x = random_page(w, w, h)
            self.assertEqual(li_darkest(w, 0, x), [0] + x)

    def test_distance_greater_than_the_page(self):
        x = [7, 90, 8, 4, 90, 5]
        for d in (2, 3, 7, 63, 64):
            self.assertEqual(li_darkest(3, d, x), [0] + [4] * 6)
        self.assertEqual(li_darkest(1, 64, [31]), [0, 31])

    def test_distance_of_64_in_a_long_row_and_a_long_column(self):
        x = [255] * 256
        x[100] = 6
        told = [0] + [255] * 36 + [6] * 129 + [255] * 91
        self.assertEqual(li_darkest(256, 64, x), told)
        self.assertEqual(li_darkest(1, 64, x), told)

    def test_pages_as_the_words_tell(self):
        for w in (1, 2, 5, 17):
            for h in (1, 2, 6, 13):
                x = random_page(w * 100 + h, w, h)
                for d in (0, 1, 2, 4, 12, 64):
                    told = [min(bytes_near) for bytes_near in each_near(w, d, x)]
                    self.assertEqual(li_darkest(w, d, x), [0] + told, (w, h, d))

    def test_greatest_page(self):
        x = [255] * 65536
        x[100 * 256 + 200] = 1
        x[0] = 2
        told = [255] * 65536
        for r in range(256):
            for c in range(256):
                if c <= 64 and r <= 64:
                    told[r * 256 + c] = 2
                if c >= 136 and 36 <= r <= 164:
                    told[r * 256 + c] = 1
        self.assertEqual(li_darkest(256, 64, x), [0] + told)


if __name__ == "__main__":
    unittest.main()
