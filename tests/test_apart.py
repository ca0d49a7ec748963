"""Promise 12: li_apart."""

import random
import unittest

from evenlight.light import li_apart

EVERY = list(range(256))


class ApartTest(unittest.TestCase):
    def test_one_place(self):
        self.assertEqual(li_apart([9], [4]), [5])
        self.assertEqual(li_apart([4], [9]), [5])
        self.assertEqual(li_apart([0], [255]), [255])
        self.assertEqual(li_apart([255], [0]), [255])

    def test_both_ways_are_added(self):
        # By differences with their sign it would be 0.
        self.assertEqual(li_apart([10, 20], [20, 10]), [20])
        self.assertEqual(li_apart(EVERY, EVERY[::-1]), [32768])

    def test_not_squared_and_not_the_most_alone(self):
        self.assertEqual(li_apart([0, 0, 0], [1, 2, 3]), [6])

    def test_place_by_place(self):
        self.assertEqual(li_apart([1, 2, 3], [3, 2, 1]), [4])

    def test_alike_lists(self):
        self.assertEqual(li_apart(EVERY, list(EVERY)), [0])
        self.assertEqual(li_apart([7], [7]), [0])

    def test_one_list_as_both(self):
        both = [1, 200, 3]
        self.assertEqual(li_apart(both, both), [0])

    def test_lists_as_the_words_tell(self):
        rng = random.Random(27)
        for n in (1, 2, 3, 255, 256, 257, 5000):
            x = [rng.randrange(256) for place in range(n)]
            y = [rng.randrange(256) for place in range(n)]
            told = 0
            for place in range(n):
                told += x[place] - y[place] if x[place] > y[place] else y[place] - x[place]
            self.assertEqual(li_apart(x, y), [told])
            self.assertEqual(li_apart(y, x), [told])


class NumberTest(unittest.TestCase):
    def test_none(self):
        self.assertEqual(li_apart([], []), [0])

    def test_most_are_answered(self):
        self.assertEqual(li_apart([0] * 65536, [255] * 65536), [16711680])
        self.assertEqual(li_apart([255] * 65536, [0] * 65536), [16711680])
        self.assertEqual(li_apart([8] * 65536, [8] * 65535 + [9]), [1])

    def test_more_are_refused(self):
        for n in (65537, 65538, 70000):
            self.assertEqual(li_apart([3] * n, [7] * n), [-2])
            self.assertEqual(li_apart([3] * n, [3] * n), [-2])
            self.assertEqual(li_apart([3] * n, []), [-2])


if __name__ == "__main__":
    unittest.main()
