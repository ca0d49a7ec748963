"""Promise 2: li_kth."""

import unittest

from evenlight.light import li_kth

MOST = 4294967295


class KthTest(unittest.TestCase):
    def test_first_and_last(self):
        x = [200, 3, 17, 255, 0, 99]
        self.assertEqual(li_kth(1, x), [0])
        self.assertEqual(li_kth(6, x), [255])
        self.assertEqual(li_kth(1, [42]), [42])

    def test_each_in_between(self):
        x = [(value * 37) % 256 for value in range(256)]
        for k in range(1, 257):
            self.assertEqual(li_kth(k, x), [k - 1])

    def test_ordered_as_numbers(self):
        self.assertEqual(li_kth(1, [100, 20, 3]), [3])
        self.assertEqual(li_kth(3, [100, 20, 3]), [100])

    def test_alike_ones_each_by_itself(self):
        x = [5, 2, 5, 2, 5, 9]
        self.assertEqual([li_kth(k, x) for k in range(1, 7)], [[2], [2], [5], [5], [5], [9]])
        self.assertEqual(li_kth(2, [7, 7, 7]), [7])

    def test_k_of_0_or_above_n(self):
        self.assertEqual(li_kth(0, [1, 2, 3]), [-6])
        self.assertEqual(li_kth(4, [1, 2, 3]), [-6])
        self.assertEqual(li_kth(MOST, [1, 2, 3]), [-6])

    def test_empty_list(self):
        for k in (0, 1, 2, 65537, MOST):
            self.assertEqual(li_kth(k, []), [-6])

    def test_most_bytes_are_answered(self):
        x = [1] * 65535 + [0]
        self.assertEqual(li_kth(1, x), [0])
        self.assertEqual(li_kth(2, x), [1])
        self.assertEqual(li_kth(65536, x), [1])
        self.assertEqual(li_kth(0, x), [-6])
        self.assertEqual(li_kth(65537, x), [-6])

    def test_more_bytes_are_refused_ahead_of_all_else(self):
        for k in (0, 1, 65537, 65538, MOST):
            self.assertEqual(li_kth(k, [1] * 65537), [-2])
        self.assertEqual(li_kth(0, [1] * 70000), [-2])


if __name__ == "__main__":
    unittest.main()
