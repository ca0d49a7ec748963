"""Promise 1, its second half: li_best."""

import random
import unittest
from fractions import Fraction

from evenlight.light import li_best

MOST = 4294967295


def counts_of(found):
    counts = [0] * 256
    for value, count in found.items():
        counts[value] = count
    return counts


def parts_by(k, t):
    """By how much t parts k, straight from the document's words; None if not at all."""
    a = sum(k[:t + 1])
    b = sum(k[t + 1:])
    low = sum(value * k[value] for value in range(t + 1))
    high = sum(value * k[value] for value in range(t + 1, 256))
    if a == 0 or b == 0:
        return None
    return Fraction((a * high - b * low) ** 2, a * b)


def best_by_words(k):
    best = -6
    most = None
    for t in range(255):
        amount = parts_by(k, t)
        if amount is not None and (most is None or amount > most):
            best = t
            most = amount
    return [best]


class OneBestTest(unittest.TestCase):
    def test_neighbours(self):
        self.assertEqual(li_best(counts_of({0: 1, 1: 1})), [0])
        self.assertEqual(li_best(counts_of({100: 5, 101: 2})), [100])
        self.assertEqual(li_best(counts_of({254: 1, 255: 1})), [254])

    def test_two_heaps(self):
        k = counts_of({10: 4, 11: 9, 12: 3, 200: 8, 201: 20, 202: 5})
        self.assertEqual(parts_by(k, 12), max(parts_by(k, t) for t in range(10, 202)))
        self.assertEqual(li_best(k), [12])

    def test_three_values(self):
        # 0 | 1 10 parts by 11 ^ 2 / 2 = 121 / 2, 0 1 | 10 by 19 ^ 2 / 2 = 361 / 2.
        self.assertEqual(li_best(counts_of({0: 1, 1: 1, 10: 1})), [1])
        # 0 | 9 10 parts by 19 ^ 2 / 2, 0 9 | 10 by 11 ^ 2 / 2.
        self.assertEqual(li_best(counts_of({0: 1, 9: 1, 10: 1})), [0])

    def test_many_counts_as_the_words_tell(self):
        rng = random.Random(1)
        for most in (1, 2, 9, 1000, MOST):
            for share in (2, 20, 256):
                k = [rng.randint(0, most) if rng.randrange(256) < share else 0 for value in range(256)]
                self.assertEqual(li_best(k), best_by_words(k))


class LeastOfBestTest(unittest.TestCase):
    def test_thresholds_between_two_values_are_alike(self):
        self.assertEqual(li_best(counts_of({0: 3, 255: 7})), [0])
        self.assertEqual(li_best(counts_of({40: 1, 90: 1})), [40])

    def test_mirrored_thresholds_are_alike(self):
        self.assertEqual(li_best(counts_of({0: 1, 1: 1, 2: 1})), [0])
        k = counts_of({20: 8, 60: 5, 100: 8})
        self.assertEqual(parts_by(k, 20), parts_by(k, 60))
        self.assertEqual(li_best(k), [20])

    def test_alike_without_a_mirror(self):
        # What lies between counts by its number and its sum alone.
        k = counts_of({0: 1, 18: 2, 24: 1, 40: 1})
        self.assertEqual([parts_by(k, t) for t in (0, 18, 24)], [2500, 2400, 2500])
        self.assertEqual(li_best(k), [0])


class NoErrorTest(unittest.TestCase):
    def test_quotients_with_one_whole_part(self):
        k = counts_of({0: 9, 1: 2, 2: 10})
        self.assertEqual(parts_by(k, 0), 363)
        self.assertEqual(parts_by(k, 1), Fraction(4000, 11))
        self.assertEqual(li_best(k), [1])

    def test_quotients_that_differ_by_very_little(self):
        for middle in (1, 2, 3):
            for value in (1, 100, 127):
                later = counts_of({0: MOST - 1, value: middle, 2 * value: MOST})
                apart = parts_by(later, value) - parts_by(later, 0)
                self.assertTrue(0 < apart * 10 ** 28 < parts_by(later, 0))
                self.assertEqual(li_best(later), [value])
                earlier = counts_of({0: MOST, value: middle, 2 * value: MOST - 1})
                self.assertTrue(parts_by(earlier, 0) > parts_by(earlier, value))
                self.assertEqual(li_best(earlier), [0])

    def test_alike_quotients_of_great_counts(self):
        for middle in (1, 12345, MOST):
            k = counts_of({3: MOST, 103: middle, 203: MOST})
            self.assertEqual(parts_by(k, 3), parts_by(k, 103))
            self.assertEqual(li_best(k), [3])


class GreatCountsTest(unittest.TestCase):
    def test_all_counts_at_the_most(self):
        self.assertEqual(li_best([MOST] * 256), [127])

    def test_some_counts_at_the_most(self):
        self.assertEqual(li_best(counts_of({0: MOST, 255: MOST})), [0])
        self.assertEqual(li_best(counts_of({254: 1, 255: MOST})), [254])
        self.assertEqual(li_best(counts_of({0: MOST, 1: 1})), [0])
        k = counts_of({0: MOST, 128: MOST, 255: MOST})
        self.assertEqual(li_best(k), best_by_words(k))
        self.assertEqual(li_best(k), [0])


class NonePartsTest(unittest.TestCase):
    def test_all_counts_are_0(self):
        self.assertEqual(li_best([0] * 256), [-6])

    def test_only_one_value_is_there(self):
        for value in (0, 1, 128, 254, 255):
            for count in (1, 2, MOST):
                self.assertEqual(li_best(counts_of({value: count})), [-6])


if __name__ == "__main__":
    unittest.main()
