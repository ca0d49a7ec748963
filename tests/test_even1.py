"""Promise 7, its second sentence: li_even1."""

import unittest

from evenlight.light import li_even, li_even1

MOST = 4294967295


class EvenOneTest(unittest.TestCase):
    def test_shares(self):
        self.assertEqual(li_even1(50, 200), [64])
        self.assertEqual(li_even1(100, 200), [128])
        self.assertEqual(li_even1(1, 7), [36])
        self.assertEqual(li_even1(2, 7), [73])

    def test_a_and_b_are_not_mixed_up(self):
        self.assertEqual(li_even1(100, 200), [128])
        self.assertEqual(li_even1(200, 100), [255])

    def test_b_of_0_is_white(self):
        for a in (0, 1, 255, 256, MOST):
            self.assertEqual(li_even1(a, 0), [255])

    def test_rims(self):
        # 0 and 256 end in eight bits of 0, 255 and 4294967295 in eight bits of 1.
        told = {
            (0, 0): 255, (0, 255): 0, (0, 256): 255, (0, MOST): 0,
            (255, 0): 255, (255, 255): 255, (255, 256): 255, (255, MOST): 255,
            (256, 0): 255, (256, 255): 0, (256, 256): 255, (256, MOST): 0,
            (MOST, 0): 255, (MOST, 255): 255, (MOST, 256): 255, (MOST, MOST): 255,
        }
        for (a, b), number in told.items():
            self.assertEqual(li_even1(a, b), [number], (a, b))

    def test_lowest_eight_bits_of_0(self):
        for high in (256, 512, 65536, 2147483648, MOST - 255):
            self.assertEqual(li_even1(high, 100), [0])
            self.assertEqual(li_even1(high, high), [255])
            self.assertEqual(li_even1(7, high), [255])

    def test_lowest_eight_bits_alone_count(self):
        for high in (256, 512, 65536, 2147483648, MOST - 255):
            self.assertEqual(li_even1(high + 50, 200), [64])
            self.assertEqual(li_even1(50, high + 200), [64])
            self.assertEqual(li_even1(high + 50, high + 200), [64])
            self.assertEqual(li_even1(high + 1, 255), [1])
            self.assertEqual(li_even1(1, high + 1), [255])

    def test_each_pair_of_bytes_as_li_even_tells(self):
        x = [place // 256 for place in range(65536)]
        b = [place % 256 for place in range(65536)]
        told = li_even(x, b)[1:]
        self.assertEqual([li_even1(value, behind)[0] for value, behind in zip(x, b)], told)
        far = [li_even1(value + 256 * behind, behind + 65536 * value)[0] for value, behind in zip(x, b)]
        self.assertEqual(far, told)


if __name__ == "__main__":
    unittest.main()
