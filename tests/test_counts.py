"""Promise 1, its first half: li_counts."""

import unittest

from evenlight.light import li_counts


def counts_of(found):
    counts = [0] * 256
    for value, count in found.items():
        counts[value] = count
    return counts


class CountsTest(unittest.TestCase):
    def test_ordinary_lists(self):
        self.assertEqual(li_counts([7]), [0] + counts_of({7: 1}))
        self.assertEqual(li_counts([3, 1, 3, 255, 0, 3]), [0] + counts_of({0: 1, 1: 1, 3: 3, 255: 1}))

    def test_each_byte_at_its_own_place(self):
        x = []
        for value in range(256):
            x = x + [value] * (value % 5)
        self.assertEqual(li_counts(x), [0] + [value % 5 for value in range(256)])
        self.assertEqual(li_counts(x[::-1]), [0] + [value % 5 for value in range(256)])

    def test_empty_list(self):
        self.assertEqual(li_counts([]), [0] + [0] * 256)

    def test_most_bytes_are_answered(self):
        self.assertEqual(li_counts([9] * 65536), [0] + counts_of({9: 65536}))
        self.assertEqual(li_counts(list(range(256)) * 256), [0] + [256] * 256)

    def test_more_bytes_are_refused(self):
        self.assertEqual(li_counts([9] * 65537), [-2])
        self.assertEqual(li_counts([0] * 70000), [-2])


if __name__ == "__main__":
    unittest.main()
