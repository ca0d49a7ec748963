"""Promise 4: li_sums."""

import random
import unittest

from evenlight.light import li_sums


def sums_by_words(w, x):
    """Each sum by itself, straight from the document's words."""
    h = len(x) // w
    return [0] + [sum(x[row * w + column] for row in range(r) for column in range(c))
                  for r in range(h + 1) for c in range(w + 1)]


class SumsTest(unittest.TestCase):
    def test_one_place(self):
        self.assertEqual(li_sums(1, [0]), [0, 0, 0, 0, 0])
        self.assertEqual(li_sums(1, [200]), [0, 0, 0, 0, 200])

    def test_small_page(self):
        self.assertEqual(li_sums(3, [1, 2, 3, 40, 50, 60]), [0, 0, 0, 0, 0, 0, 1, 3, 6, 0, 41, 93, 156])

    def test_columns_and_rows_are_not_mixed_up(self):
        self.assertEqual(li_sums(2, [1, 2, 3, 4, 5, 6]), [0, 0, 0, 0, 0, 1, 3, 0, 4, 10, 0, 9, 21])

    def test_one_row(self):
        self.assertEqual(li_sums(4, [5, 0, 255, 1]), [0] + [0] * 5 + [0, 5, 5, 260, 261])
        self.assertEqual(li_sums(256, [255] * 256), [0] + [0] * 257 + [255 * c for c in range(257)])

    def test_one_column(self):
        self.assertEqual(li_sums(1, [5, 0, 255, 1]), [0, 0, 0, 0, 5, 0, 5, 0, 260, 0, 261])
        down = li_sums(1, [255] * 256)
        self.assertEqual(down[1::2], [0] * 257)
        self.assertEqual(down[2::2], [255 * r for r in range(257)])

    def test_first_row_and_first_column_are_0(self):
        sums = li_sums(7, [9] * 35)[1:]
        self.assertEqual(sums[:8], [0] * 8)
        self.assertEqual(sums[::8], [0] * 6)

    def test_one_byte_alone_counts_behind_and_below_it(self):
        for c, r in ((0, 0), (2, 0), (0, 2), (2, 2), (1, 1), (1, 2)):
            x = [0] * 9
            x[r * 3 + c] = 7
            told = [7 if column > c and row > r else 0 for row in range(4) for column in range(4)]
            self.assertEqual(li_sums(3, x), [0] + told)

    def test_pages_as_the_words_tell(self):
        rng = random.Random(4)
        for w in (1, 2, 3, 8, 17):
            for h in (1, 2, 5, 16):
                x = [rng.randrange(256) for place in range(w * h)]
                self.assertEqual(li_sums(w, x), sums_by_words(w, x))

    def test_greatest_page(self):
        self.assertEqual(li_sums(256, [255] * 65536), [0] + [255 * c * r for r in range(257) for c in range(257)])


if __name__ == "__main__":
    unittest.main()
