"""Promise 8, its first sentence: li_levels."""

import unittest

from evenlight.light import li_levels

MOST = 4294967295


def level_by_words(lo, hi, value):
    if value <= lo:
        return 0
    if value >= hi:
        return 255
    return (255 * (value - lo) + (hi - lo) // 2) // (hi - lo)


class LevelsTest(unittest.TestCase):
    def test_drawn_out(self):
        self.assertEqual(li_levels(50, 150, [0, 49, 75, 100, 125, 151, 255]), [0, 0, 0, 64, 128, 191, 255, 255])

    def test_at_lo_and_at_hi(self):
        self.assertEqual(li_levels(50, 150, [49, 50, 51, 149, 150, 151]), [0, 0, 0, 3, 252, 255, 255])

    def test_rounding_by_half_of_the_way_rounded_down(self):
        # 255 / 2 is 127 and a half; 255 / 7 is 36 and three sevenths, 510 / 7 is 72 and six sevenths.
        self.assertEqual(li_levels(10, 12, [11]), [0, 128])
        self.assertEqual(li_levels(10, 17, [11, 12]), [0, 36, 73])

    def test_neighbours_part_black_from_white(self):
        self.assertEqual(li_levels(9, 10, [0, 8, 9, 10, 11, 255]), [0, 0, 0, 0, 255, 255, 255])

    def test_all_the_way_changes_nothing(self):
        every = list(range(256))
        self.assertEqual(li_levels(0, 255, every), [0] + every)

    def test_lo_of_0(self):
        self.assertEqual(li_levels(0, 1, [0, 1, 2]), [0, 0, 255, 255])
        self.assertEqual(li_levels(0, 100, [0, 1, 50, 99, 100]), [0, 0, 3, 128, 252, 255])

    def test_hi_of_255(self):
        self.assertEqual(li_levels(254, 255, [253, 254, 255]), [0, 0, 0, 255])
        self.assertEqual(li_levels(155, 255, [155, 156, 254, 255]), [0, 0, 3, 252, 255])

    def test_all_levels_as_the_words_tell(self):
        every = list(range(256))
        for hi in list(range(1, 256, 6)) + [254, 255]:
            for lo in range(hi):
                told = [level_by_words(lo, hi, value) for value in every]
                self.assertEqual(li_levels(lo, hi, every), [0] + told, (lo, hi))


class RangeTest(unittest.TestCase):
    def check_refused(self, lo, hi):
        self.assertEqual(li_levels(lo, hi, [1, 2, 3]), [-2], (lo, hi))
        self.assertEqual(li_levels(lo, hi, []), [-2], (lo, hi))

    def test_lo_and_hi_alike(self):
        for both in (0, 1, 128, 255, 256, MOST):
            self.check_refused(both, both)

    def test_lo_above_hi(self):
        for lo, hi in ((1, 0), (129, 128), (255, 254), (255, 0), (256, 255), (MOST, 255), (MOST, 0)):
            self.check_refused(lo, hi)

    def test_hi_above_255(self):
        for lo, hi in ((0, 256), (255, 256), (256, 257), (0, MOST), (MOST - 1, MOST)):
            self.check_refused(lo, hi)

    def test_none(self):
        self.assertEqual(li_levels(0, 1, []), [0])
        self.assertEqual(li_levels(0, 255, []), [0])

    def test_most_bytes_are_answered(self):
        self.assertEqual(li_levels(2, 4, [3] * 65536), [0] + [128] * 65536)

    def test_more_bytes_are_refused(self):
        for n in (65537, 70000):
            self.assertEqual(li_levels(2, 4, [3] * n), [-2])
            self.assertEqual(li_levels(4, 2, [3] * n), [-2])


if __name__ == "__main__":
    unittest.main()
