"""Promise 5: li_median."""

import random
import unittest

from evenlight.light import li_median


def held(number, most):
    return max(0, min(number, most))


def median_by_words(w, x):
    """The fifth of nine, each place beyond the rim drawn back to it, straight from the document's words."""
    h = len(x) // w
    medians = []
    for r in range(h):
        for c in range(w):
            nine = [x[held(r + down, h - 1) * w + held(c + along, w - 1)] for down in (-1, 0, 1) for along in (-1, 0, 1)]
            nine.sort()
            medians.append(nine[4])
    return [0] + medians


class MedianTest(unittest.TestCase):
    def test_middle_of_three_by_three(self):
        answer = li_median(3, [90, 10, 80, 20, 70, 30, 60, 40, 50])
        self.assertEqual(answer[5], 50)

    def test_ordered_as_numbers(self):
        self.assertEqual(li_median(3, [100, 9, 8, 101, 200, 7, 102, 6, 103])[5], 100)

    def test_specks_are_taken_away(self):
        for speck, ground in ((0, 255), (255, 0), (1, 2)):
            for place in range(25):
                x = [ground] * 25
                x[place] = speck
                self.assertEqual(li_median(5, x), [0] + [ground] * 25)

    def test_alike_bytes_stay(self):
        for value in (0, 77, 255):
            self.assertEqual(li_median(4, [value] * 12), [0] + [value] * 12)

    def test_edges_stay_sharp(self):
        row = [0, 0, 0, 255, 255, 255]
        self.assertEqual(li_median(6, row * 4), [0] + row * 4)


class RimTest(unittest.TestCase):
    def test_corner_counts_four_times(self):
        # The corner four times, the one beside it and the one below it twice, the one across once.
        self.assertEqual(li_median(2, [9, 1, 1, 1]), [0, 1, 1, 1, 1])
        self.assertEqual(li_median(2, [5, 1, 9, 2]), [0, 5, 2, 5, 2])

    def test_each_corner(self):
        x = [50, 10, 60,
             90, 0, 95,
             70, 20, 80]
        answer = li_median(3, x)[1:]
        self.assertEqual([answer[0], answer[2], answer[6], answer[8]], [50, 60, 70, 80])

    def test_each_edge(self):
        x = [1, 50, 2,
             60, 0, 70,
             3, 80, 4]
        answer = li_median(3, x)[1:]
        # Above: 1 1 50 50 2 2 60 0 70, and alike for the others.
        self.assertEqual([answer[1], answer[3], answer[5], answer[7]], [2, 3, 4, 4])

    def test_one_place(self):
        for value in (0, 13, 255):
            self.assertEqual(li_median(1, [value]), [0, value])

    def test_one_row_and_one_column(self):
        x = [5, 9, 1, 7, 7, 3]
        self.assertEqual(li_median(6, x), [0, 5, 5, 7, 7, 7, 3])
        self.assertEqual(li_median(1, x), [0, 5, 5, 7, 7, 7, 3])
        self.assertEqual(li_median(2, [8, 4]), [0, 8, 4])
        self.assertEqual(li_median(1, [8, 4]), [0, 8, 4])

    def test_long_row_and_long_column(self):
        rng = random.Random(8)
        x = [rng.randrange(256) for place in range(256)]
        threes = [sorted(x[c - 1:c + 2])[1] for c in range(1, 255)]
        self.assertEqual(li_median(256, x), [0, x[0]] + threes + [x[255]])
        self.assertEqual(li_median(1, x), [0, x[0]] + threes + [x[255]])

    def test_pages_as_the_words_tell(self):
        rng = random.Random(9)
        for w in (1, 2, 3, 4, 33, 256):
            for h in (1, 2, 3, 20):
                for most in (2, 256):
                    x = [rng.randrange(most) for place in range(w * h)]
                    self.assertEqual(li_median(w, x), median_by_words(w, x))

    def test_greatest_page(self):
        rng = random.Random(10)
        x = [rng.randrange(256) for place in range(65536)]
        self.assertEqual(li_median(256, x), median_by_words(256, x))


if __name__ == "__main__":
    unittest.main()
