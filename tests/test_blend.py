"""Promise 9, its second sentence: li_blend."""

import unittest

from evenlight.light import li_blend

MOST = 4294967295
EVERY = list(range(256))


class BlendTest(unittest.TestCase):
    def test_parts_of_256(self):
        self.assertEqual(li_blend(128, [0, 100, 200], [100, 200, 0]), [0, 50, 150, 100])
        self.assertEqual(li_blend(64, [0, 100, 200], [100, 200, 0]), [0, 25, 125, 150])

    def test_x_and_y_are_not_mixed_up(self):
        self.assertEqual(li_blend(1, [0], [255]), [0, 1])
        self.assertEqual(li_blend(1, [255], [0]), [0, 254])
        self.assertEqual(li_blend(255, [0], [255]), [0, 254])

    def test_rounding_to_the_nearest(self):
        # k * 1 + 128 reaches 256 at a k of 128.
        self.assertEqual(li_blend(127, [0], [1]), [0, 0])
        self.assertEqual(li_blend(128, [0], [1]), [0, 1])
        # From 1 to 0 it falls below 256 at a k of 129.
        self.assertEqual(li_blend(128, [1], [0]), [0, 1])
        self.assertEqual(li_blend(129, [1], [0]), [0, 0])

    def test_k_of_0_is_x(self):
        self.assertEqual(li_blend(0, EVERY, EVERY[::-1]), [0] + EVERY)

    def test_k_of_256_is_y(self):
        self.assertEqual(li_blend(256, EVERY, EVERY[::-1]), [0] + EVERY[::-1])

    def test_alike_bytes_stay(self):
        for k in (0, 1, 77, 128, 255, 256):
            self.assertEqual(li_blend(k, EVERY, EVERY), [0] + EVERY)

    def test_one_list_as_both(self):
        both = [0, 9, 255]
        self.assertEqual(li_blend(100, both, both), [0, 0, 9, 255])

    def test_place_by_place(self):
        self.assertEqual(li_blend(256, [1, 2, 3], [9, 8, 7]), [0, 9, 8, 7])
        self.assertEqual(li_blend(128, [0, 0, 0], [2, 4, 6]), [0, 1, 2, 3])

    def test_each_k_from_black_to_white(self):
        for k in range(257):
            told = [(255 * k + 128) // 256, (255 * (256 - k) + 128) // 256]
            self.assertEqual(li_blend(k, [0, 255], [255, 0]), [0] + told)

    def test_each_pair_of_bytes_as_the_words_tell(self):
        x = [place // 256 for place in range(65536)]
        y = [place % 256 for place in range(65536)]
        for k in (0, 1, 2, 63, 100, 127, 128, 129, 255, 256):
            told = [(one * (256 - k) + other * k + 128) // 256 for one, other in zip(x, y)]
            self.assertEqual(li_blend(k, x, y), [0] + told, k)


class RangeTest(unittest.TestCase):
    def test_k_above_256_is_refused(self):
        for k in (257, 258, 512, 65536, MOST):
            self.assertEqual(li_blend(k, [1, 2], [3, 4]), [-2])
            self.assertEqual(li_blend(k, [], []), [-2])

    def test_none(self):
        for k in (0, 1, 255, 256):
            self.assertEqual(li_blend(k, [], []), [0])

    def test_most_are_answered(self):
        self.assertEqual(li_blend(128, [3] * 65536, [7] * 65536), [0] + [5] * 65536)

    def test_more_are_refused(self):
        for n in (65537, 65538, 70000):
            for k in (0, 128, 256, 257):
                self.assertEqual(li_blend(k, [3] * n, [7] * n), [-2])
            self.assertEqual(li_blend(128, [3] * n, []), [-2])


if __name__ == "__main__":
    unittest.main()
